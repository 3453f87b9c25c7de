/-
  Layer 19, the program: sharesOf, New.
-/
import Derived.Test.YtjccdimmfhkipaaDk1
import Derived.Test.YtjccdimmfhkipaaExAwake
import Derived.Test.YtjccdimmfhkipaaEx3
import Derived.Test.YtjccdimmfhkipaaPhys1
namespace Go.Proofs.Ytjccdimmfhkipaa
open Go.RowKit
set_option linter.unusedVariables false
set_option linter.unusedSimpArgs false
set_option maxRecDepth 100000

/-- The first k of some shares, and none behind them. -/
def shK (ps : List (Int × Int)) (k : Nat) : List (Int × Int) := ps.take k ++ List.replicate (ps.length - k) (0, 0)
theorem shK_len (ps : List (Int × Int)) (k : Nat) (h : k ≤ ps.length) : (shK ps k).length = ps.length := by simp [shK]; omega
theorem shK_zero (ps : List (Int × Int)) : shK ps 0 = List.replicate ps.length (0, 0) := by simp [shK]
theorem shK_all (ps : List (Int × Int)) : shK ps ps.length = ps := by simp [shK]
theorem shK_step (ps : List (Int × Int)) (k : Nat) (h : k < ps.length) : (shK ps k).set k (ps.getD k (0, 0)) = shK ps (k + 1) := by
  unfold shK
  rw [List.set_append_right _ _ (by simp; omega), List.length_take, show k - min k ps.length = 0 by omega, show ps.length - k = (ps.length - (k + 1)) + 1 by omega, List.replicate_succ, List.set_cons_zero, List.take_add_one, List.getElem?_eq_getElem h]
  have e : ps.getD k (0, 0) = ps[k] := by simp [List.getD, List.getElem?_eq_getElem h]
  rw [e]
  simp only [Option.toList_some, List.append_assoc, List.singleton_append]
theorem zpl_set (p : Int × Int) : ∀ (L : List (Int × Int)) (k : Nat), k < L.length → (((((zpl L).set (k * 5) (.int .i64 0)).set (k * 5 + 1) (.int .i64 0)).set (k * 5 + 2) (.slice none 0 0)).set (k * 5 + 3) (.int .i64 p.1)).set (k * 5 + 4) (.int .i64 p.2) = zpl (L.set k p) := by
  intro L
  induction L with
  | nil => intro k h; simp at h
  | cons q L ih =>
    intro k h
    have e : ∀ x, zpl (x :: L) = .int .i64 0 :: .int .i64 0 :: .slice none 0 0 :: .int .i64 x.1 :: .int .i64 x.2 :: zpl L := fun x => rfl
    match k with
    | 0 => rw [e]; simp [zpl, zpc]
    | k + 1 =>
      have := ih k (by simpa using h)
      rw [e, List.set_cons_succ]
      rw [show (k + 1) * 5 = k * 5 + 1 + 1 + 1 + 1 + 1 by omega]
      simp only [List.set_cons_succ, show k * 5 + 1 + 1 + 1 + 1 + 1 + 1 = k * 5 + 1 + 1 + 1 + 1 + 1 + 1 from rfl, Nat.add_right_comm _ 1 2, Nat.add_right_comm _ 1 3, Nat.add_right_comm _ 1 4]
      rw [this]
      rfl

theorem make_partz (n : Nat) (hn : n ≤ 4) (W : World) : (Instr.makeSlice 22 (.int .i64 (n : Int)) (.int .i64 (n : Int))).run Try.prog W = .ok (.slice (some ⟨W.heap.size, 0, none⟩) n n) (W.alloc (.cells (zpl (List.replicate n (0, 0))).toArray 39)) := by
  obtain ⟨i0, hi, hz0, hz1, hz2⟩ := info_parts infoPart
  have := run_makeSlice (P := Try.prog) W 22 39 i0 _ Try.underlying22 hi hz0 .i64 .i64 n n (by omega) (by omega) (by rw [hz1]; omega) (by rw [hz2]; omega) (by omega)
  rw [this, Int.toNat_natCast, hz1]
  congr 2
  rcases (show n = 0 ∨ n = 1 ∨ n = 2 ∨ n = 3 ∨ n = 4 by omega) with rfl | rfl | rfl | rfl | rfl <;> kernel_rfl

theorem shares_set {w : World} {h : Nat} {t : TypeId} {ps : List (Int × Int)} {k : Nat} (hb : Blk w h t (zpl (shK ps k))) (hk : k < ps.length) :
    Blk (((((w.setCell ⟨h, k * 5, none⟩ (.int .i64 0)).setCell ⟨h, k * 5 + 1, none⟩ (.int .i64 0)).setCell ⟨h, k * 5 + 2, none⟩ (.slice none 0 0)).setCell ⟨h, k * 5 + 3, none⟩ (.int .i64 (ps.getD k (0, 0)).1)).setCell ⟨h, k * 5 + 4, none⟩ (.int .i64 (ps.getD k (0, 0)).2)) h t (zpl (shK ps (k + 1))) := by
  have := ((((hb.set (k * 5) (.int .i64 0)).set (k * 5 + 1) (.int .i64 0)).set (k * 5 + 2) (.slice none 0 0)).set (k * 5 + 3) (.int .i64 (ps.getD k (0, 0)).1)).set (k * 5 + 4) (.int .i64 (ps.getD k (0, 0)).2)
  rw [zpl_set _ _ _ (by rw [shK_len _ _ (by omega)]; exact hk), shK_step _ _ hk] at this
  exact this

set_option maxHeartbeats 2000000 in
theorem shares_any (v : Value) (ps : List (Int × Int)) (w : World) (h : PtS w v ps) (h4 : ps.length ≤ 4) :
    Calls Try.prog 27 #[v] w fun e w' => e = .returned (.slice (some ⟨w.heap.size, 0, none⟩) ps.length ps.length) ∧ Blk w' w.heap.size 39 (zpl ps) ∧ Below w.heap.size w w' := by
  obtain ⟨A, cap, rfl, hn, hA⟩ := h
  obtain ⟨n, hl⟩ : ∃ n, ps.length = n := ⟨_, rfl⟩
  have HL := Lib.hid hl
  rw [hl] at hn hA h4 ⊢
  have HA := Lib.hid hA; clear hA
  have hm := make_partz n h4
  have B0 : Hid (Blk (w.alloc (.cells (zpl (List.replicate n (0, 0))).toArray 39)) w.heap.size 39 (zpl (shK ps 0)) ∧ Below w.heap.size w (w.alloc (.cells (zpl (List.replicate n (0, 0))).toArray 39))) := Lib.hid ⟨by rw [shK_zero, HL.out]; exact Blk.new w _ _, (Below.refl _ _).alloc (Nat.le_refl _) _⟩
  clear hl
  go_enter Try.func27, Try.ntmps27
  go_wp2_with fail
  clear hm
  go_loopw [11] (fun i wr => ∃ k : Nat, k ≤ n ∧ i = .int .i64 k ∧ Hid (Blk wr w.heap.size 39 (zpl (shK ps k)) ∧ Below w.heap.size w wr)) (fun i _ => n - (intOf i).toNat)
  case atStart => exact ⟨0, by omega, rfl, B0⟩
  case round =>
    clear B0
    obtain ⟨k, hk, rfl, H⟩ := hrel
    by_cases hlt : k < n
    · obtain ⟨b, o, rfl, hb, hcell⟩ := HA.out (by omega)
      obtain ⟨l, c, A2, n2, c2, q0, q1, q2, q3, q4⟩ := hcell k hlt
      have g := fun x => H.out.2.cell (p := ⟨b, x, none⟩) hb
      rw [← g] at q0 q1 q2 q3 q4
      have hws := H.out.2.size
      have hS := shares_set (k := k) (H.out.1.alloc (.cells #[.int .i64 l, .int .i64 c, .slice A2 n2 c2, .int .i64 (ps.getD k (0, 0)).1, .int .i64 (ps.getD k (0, 0)).2] 39)) (by rw [HL.out]; exact hlt)
      have hB := ((((((H.out.2.alloc hws (.cells #[.int .i64 l, .int .i64 c, .slice A2 n2 c2, .int .i64 (ps.getD k (0, 0)).1, .int .i64 (ps.getD k (0, 0)).2] 39)).setCell (p := ⟨w.heap.size, k * 5, none⟩) (Nat.le_refl _) (.int .i64 0)).setCell (p := ⟨w.heap.size, k * 5 + 1, none⟩) (Nat.le_refl _) (.int .i64 0)).setCell (p := ⟨w.heap.size, k * 5 + 2, none⟩) (Nat.le_refl _) (.slice none 0 0)).setCell (p := ⟨w.heap.size, k * 5 + 3, none⟩) (Nat.le_refl _) (.int .i64 (ps.getD k (0, 0)).1)).setCell (p := ⟨w.heap.size, k * 5 + 4, none⟩) (Nat.le_refl _) (.int .i64 (ps.getD k (0, 0)).2))
      have hbk := H.out.1.alloc (.cells #[.int .i64 l, .int .i64 c, .slice A2 n2 c2, .int .i64 (ps.getD k (0, 0)).1, .int .i64 (ps.getD k (0, 0)).2] 39)
      have f0 := hbk.frozen (k * 5)
      have f1 := hbk.frozen (k * 5 + 1)
      have f2 := hbk.frozen (k * 5 + 2)
      have f3 := hbk.frozen (k * 5 + 3)
      have f4 := hbk.frozen (k * 5 + 4)
      obtain ⟨z0, z1, z2, z3, z4⟩ := zpl_get (shK ps k) k (by rw [shK_len _ _ (by rw [HL.out]; exact hk), HL.out]; exact hlt)
      rw [← hbk.cell] at z0 z1 z2 z3 z4
      generalize ((shK ps k).getD k (0, 0)).1 = y1 at z3
      generalize ((shK ps k).getD k (0, 0)).2 = y2 at z4
      generalize (ps.getD k (0, 0)).1 = fi at *
      generalize (ps.getD k (0, 0)).2 = co at *
      have HS := Lib.hid hS; have HB := Lib.hid hB
      clear hS hB g hcell H hbk
      go_wp2_with fail
      go_roundw
      case rel => exact ⟨k + 1, by omega, by go_num, Lib.hid ⟨HS.out, HB.out⟩⟩
      case measure => simp [intOf]; omega
    · obtain rfl : k = n := by omega
      go_wp2_with fail
      go_ret
      have h1 := H.out.1
      rw [← HL.out, shK_all] at h1
      exact ⟨rfl, h1, H.out.2⟩

/-- The cells of a new disk: kept closed to the walk. -/
def zDk : Array Value := (.slice none 0 0 :: .int .i64 0 :: (itc noI 4 ++ bts (zeros 1024))).toArray
theorem zDk_ne : ¬ (zDk = #[]) := by simp [zDk]
theorem zDk_run (w : World) : Sem.run Try.prog (zeroValue 67) w = .ok (.agg zDk) w := by
  have hi : (Try.prog.info? 67).map (fun i => i.zero) = some (some (.agg zDk)) := by kernel_rfl
  cases h : Try.prog.info? 67 with
  | none => rw [h] at hi; cases hi
  | some i =>
    rw [h] at hi
    simp only [Option.map_some, Option.some.injEq] at hi
    simp [zeroValue, typeInfo, h, hi]
theorem zDk_size : zDk.size = 1030 := by simp [zDk, bts_len, itc_len, zeros_len]
theorem zDk_set (v : Value) (q : Int) : (zDk.setIfInBounds 0 v).setIfInBounds 1 (.int .i64 q) = (v :: .int .i64 q :: (itc noI 4 ++ bts (zeros 1024)) : List Value).toArray := by
  unfold zDk
  rw [List.setIfInBounds_toArray, List.setIfInBounds_toArray]
  rfl

/-- The first k have all of Q left. -/
def qF (Q : Int) (k : Nat) : Nat → Int := fun i => if i < k then Q else 0
theorem qF_zero (Q : Int) : qF Q 0 = noI := by funext i; simp [qF, noI]
theorem qF_step (Q : Int) (k : Nat) : iF (qF Q k) k Q = qF Q (k + 1) := by
  funext i
  unfold iF qF
  by_cases h : i = k
  · subst h; rw [if_pos rfl, if_pos (by omega)]
  · rw [if_neg h]
    by_cases h2 : i < k
    · rw [if_pos h2, if_pos (by omega)]
    · rw [if_neg h2, if_neg (by omega)]

set_option maxHeartbeats 2000000 in
theorem dnew_no (v : Value) (ps : List (Int × Int)) (s q : Int) (w : World) (h : PtS w v ps) (hno : ¬ (extB ps s = true ∧ 0 ≤ q ∧ q ≤ 64)) :
    Calls Try.prog 9 #[v, .int .i64 s, .int .i64 q] w fun e w' => e = .returned (.tuple #[.pointer none, .int .i64 1900]) ∧ Below w.heap.size w w' := by
  have HM := Lib.hid (extmay_any v ps s w h)
  clear h
  cases hE : extB ps s
  · rw [hE] at HM
    clear hE hno
    go_enter Try.func9, Try.ntmps9
    go_wp2_with fail
    refine HM.out.mono ?_
    rintro e w1 ⟨rfl, b⟩
    have HB := Lib.hid b
    clear b
    go_wp2_with fail
    go_ret2
    exact ⟨rfl, HB.out⟩
  · rw [hE] at HM
    have hw : q < 0 ∨ (decide (q < 0) = false ∧ 64 < q) := by
      by_cases h0 : q < 0
      · exact .inl h0
      · refine .inr ⟨by simp; omega, ?_⟩
        rcases Int.lt_or_le 64 q with h1 | h1
        · exact h1
        · exact (hno ⟨hE, by omega, h1⟩).elim
    clear hE hno
    rcases hw with h1 | ⟨h1, h2⟩
    all_goals
      go_enter Try.func9, Try.ntmps9
      go_wp2_with fail
      refine HM.out.mono ?_
      rintro e w1 ⟨rfl, b⟩
      have HB := Lib.hid b
      clear b
      go_wp2_with fail
      go_ret2
      exact ⟨rfl, HB.out⟩

set_option maxHeartbeats 2000000 in
theorem dnew_yes (v : Value) (ps : List (Int × Int)) (s q : Int) (w : World) (h : PtS w v ps) (hE : extB ps s = true) (q0 : 0 ≤ q) (q64 : q ≤ 64) :
    Calls Try.prog 9 #[v, .int .i64 s, .int .i64 q] w fun e w' => ∃ g, e = .returned (.tuple #[.pointer (some ⟨g, 0, none⟩), .int .i64 0]) ∧ Tk nos w [obPD g ps q (qF q ps.length) (zeros 1024)] w' := by
  have HM := Lib.hid (extmay_any v ps s w h)
  rw [hE] at HM
  have HP := Lib.hid h
  have h4 := (extB_parts hE).2.1
  obtain ⟨A, cap, e, hn, _⟩ := h
  subst e
  unfold maxLen at hn
  have HZ := zDk_run
  have hne := zDk_ne
  have hsz := zDk_size
  have hset := zDk_set
  obtain ⟨Z, hZ⟩ : ∃ Z, zeros 1024 = Z := ⟨_, rfl⟩
  have HZL : Hid (Z.length = 1024) := Lib.hid (by rw [← hZ]; exact zeros_len _)
  rw [hZ] at hset ⊢
  clear hZ
  have n0 : decide (q < 0) = false := by simp; omega
  have n1 : decide (64 < q) = false := by simp; omega
  clear hE
  obtain ⟨n, hl⟩ : ∃ n, ps.length = n := ⟨_, rfl⟩
  have HL := Lib.hid hl
  have H4 := Lib.hid h4
  rw [hl] at h4 hn HM HP ⊢
  clear hl
  go_enter Try.func9, Try.ntmps9
  go_wp2_with fail
  refine HM.out.mono ?_
  rintro e w1 ⟨rfl, b1⟩
  have HB1 := Lib.hid b1
  have hP := Lib.hid (HP.out.below b1)
  have H3 := Lib.hid hset; have H5 := Lib.hid HZ; have H6 := Lib.hid hne; have H7 := Lib.hid hsz
  clear b1 hset HZ hne hsz
  go_wp2_with fail
  have hS := shares_any _ ps _ hP.out H4.out
  rw [HL.out] at hS
  refine hS.mono ?_
  rintro e w2 ⟨rfl, hb, b2⟩
  have T0 : Hid (Tk nos w [obPD w2.heap.size ps q (qF q 0) Z] (w2.alloc (.cells (.slice (some ⟨w1.heap.size, 0, none⟩) ps.length ps.length :: .int .i64 q :: (itc noI 4 ++ bts Z) : List Value).toArray 67))) := Lib.hid (by
    have hB2 := Below.down HB1.out b2 HB1.out.size
    have hpt := PtS.of_blk (n := ps.length) hb rfl (by unfold maxLen; have := H4.out; omega)
    have hpt2 := hpt.same hb (Below.heap_alloc w2 (.cells (.slice (some ⟨w1.heap.size, 0, none⟩) ps.length ps.length :: .int .i64 q :: (itc noI 4 ++ bts Z) : List Value).toArray 67) _ hb.lt) (by simp)
    refine ⟨fun k => k = w2.heap.size ∨ k = w1.heap.size, obs_one.2 ⟨w1.heap.size, ⟨H4.out, HZL.out, fun i => by rw [qF_zero]; unfold noI; omega, ⟨q0, q64⟩, ?_, _, _, hb.alloc _, fun e => by have := hb.lt; omega, hpt2⟩, fun _ => Iff.rfl⟩, fun k hk e => by have := HB1.out.size; have := b2.size; omega, Fo.of (hB2.alloc hB2.size _) _⟩
    rw [qF_zero]; exact Blk.new w2 _ _)
  clear b2 hb hP HP hS
  rw [HL.out] at T0
  have hset := H3.out; have HZ := H5.out; have hne := H6.out; have hsz := H7.out
  clear H3 H5 H6 H7
  go_wp2_with fail
  change Code.wp _ _ _ _ (w2.alloc (.cells (.slice (some ⟨w1.heap.size, 0, none⟩) n n :: .int .i64 q :: (itc noI 4 ++ bts Z) : List Value).toArray 67))
  clear HZ hne hsz hset n0 n1
  generalize w2.alloc (.cells (.slice (some ⟨w1.heap.size, 0, none⟩) n n :: .int .i64 q :: (itc noI 4 ++ bts Z) : List Value).toArray 67) = w3 at *
  generalize w2.heap.size = g at *
  go_loopw [29] (fun i wr => ∃ k : Nat, k ≤ n ∧ i = .int .i64 k ∧ Hid (Tk nos w [obPD g ps q (qF q k) Z] wr)) (fun i _ => n - (intOf i).toNat)
  case atStart => exact ⟨0, by omega, rfl, T0⟩
  case round =>
    clear T0
    obtain ⟨k, hk, rfl, HT⟩ := hrel
    by_cases hlt : k < n
    · obtain ⟨h, d, turn⟩ := HT.out.pd (i := 0) rfl
      have c0 := d.at_ k (by omega)
      have f0 := d.frozen (2 + k)
      have hk4 : (k : Int) < 4 := by omega
      have d2 := d.set k (by omega) q ⟨q0, q64⟩
      rw [qF_step] at d2
      have T2 := Lib.hid (turn _ _ _ d2 (gone _))
      clear d d2 turn HT
      go_wp2_with fail
      go_roundw
      case rel => exact ⟨k + 1, by omega, by go_num, T2⟩
      case measure => simp [intOf]; omega
    · obtain rfl : k = n := by omega
      go_wp2_with fail
      go_ret2
      exact ⟨g, rfl, HT.out⟩

end Go.Proofs.Ytjccdimmfhkipaa
