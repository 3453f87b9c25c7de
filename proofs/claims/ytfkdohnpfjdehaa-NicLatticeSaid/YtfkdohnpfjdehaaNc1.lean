/-
  Layer 20, the program: row, message, letterOf, add.
-/
import Derived.Test.YtfkdohnpfjdehaaNcP
import Derived.Laws.BytesArg
import Derived.Laws.ResultCell
namespace Go.Proofs.Ytfkdohnpfjdehaa
open Go.RowKit
set_option linter.unusedVariables false
set_option linter.unusedSimpArgs false
set_option maxRecDepth 100000

theorem letSize : (Try.prog.info? 67).map (·.size) = some 34 := by kernel_rfl

/-- The letters' array, its first k. -/
theorem let_row (w : World) (g o k : Nat) (hk : k ≤ 8) : (Instr.sliceAt 68 (.pointer (some ⟨g, o, none⟩)) none (some (.int .i64 (k : Int))) none).run Try.prog w = .ok (.slice (some ⟨g, o, none⟩) k 8) w := by
  have ht := Try.underlying68
  have hl : Try.prog.arrayLen 68 = 8 := by kernel_rfl
  have he : Try.prog.elem 68 = 67 := by kernel_rfl
  have hz : (Go.sizeOf 67).run Try.prog w = .ok 34 w := by
    obtain ⟨i, hi, h2⟩ := Option.map_eq_some_iff.1 letSize
    simp [Go.sizeOf, typeInfo, hi, h2]
  rw [run_sliceAt_array_h w 68 ⟨g, o, none⟩ (by rw [hl, he]; exact ht) .i64 _ (by omega) (by rw [hl]; omega), he, hz, hl]
  simp [Result.andThen, slicedAt, add_none]

section
variable {w : World} {g : Nat} {ls : List (Int × Int)} {K : Nat → Nat} {Q : Nat → List Ms} {D : Nat → Int}
theorem qrow_any (p : Nat) (hp : p < 4) (d : PS w g ls K Q D) (hk : K p ≤ 8) :
    Calls Try.prog 38 #[.pointer (some ⟨g, 9 + p * 274, none⟩)] w fun e w' => e = .returned (.slice (some ⟨g, 9 + p * 274 + 1, none⟩) (K p) 8) ∧ ∃ n, w' = w.drewN n := by
  have c0 := d.cnt p hp
  clear d
  generalize K p = k at *
  generalize 9 + p * 274 = o at *
  have HS := fun W => let_row W g (o + 1) k hk
  go_enter Try.func38, Try.ntmps38
  go_wp2_with fail
  go_quiet (fail)
  go_wp2_with fail
  go_ret
  exact ⟨rfl, nq, rfl⟩

theorem let_arr (w : World) (a n : Nat) (hn : n ≤ 32) : (Instr.sliceAt 65 (.pointer (some ⟨a, 2, none⟩)) none (some (.int .i64 (n : Int))) none).run Try.prog w = .ok (.slice (some ⟨a, 2, none⟩) n 32) w := by
  have ht := Try.underlying65
  have hl : Try.prog.arrayLen 65 = 32 := by kernel_rfl
  have he : Try.prog.elem 65 = 5 := by kernel_rfl
  have hz : (Go.sizeOf 5).run Try.prog w = .ok 1 w := by
    have hi : (Try.prog.info? 5).map (fun i => (i.zero, i.size, i.bytes)) = some (some (.int .u8 0), 1, 1) := by kernel_rfl
    obtain ⟨i0, hi, _, hz1, _⟩ := info_parts hi
    simp [Go.sizeOf, typeInfo, hi, hz1]
  rw [run_sliceAt_array_h w 65 ⟨a, 2, none⟩ (by rw [hl, he]; exact ht) .i64 _ (by omega) (by rw [hl]; omega), he, hz, hl]
  simp [Result.andThen, slicedAt, add_none]

theorem ltc_byte (m : Ms) (i : Nat) (h : i < m.s.length) : (ltc m)[2 + i]? = some (.int .u8 ((m.s.getD i 0).toNat : Int)) := by
  unfold ltc
  rw [show 2 + i = i + 1 + 1 by omega, List.getElem?_cons_succ, List.getElem?_cons_succ, bts_get _ _ (by simp; omega)]
  simp [List.getD, List.getElem?_append_left h]
theorem let_str (w : World) (g c : Nat) (t : TypeId) (m : Ms) (h : Blk w g t (ltc m)) : (convert 60 9 (.slice (some ⟨g, 2, none⟩) m.s.length c)).run Try.prog w = .ok (.string (str m.s)) w :=
  conv_str (w := w) g 2 c m.s (fun i hi => by rw [h.cell, ltc_byte m i hi])

theorem msg_any (m : Ms) (w : World) (hm : m.s.length ≤ 32) :
    Calls Try.prog 37 #[.agg (ltc m).toArray] w fun e w' => e = .returned (.agg (mcs m).toArray) ∧ Below w.heap.size w w' := by
  have hb := (Blk.new w 67 (ltc m)).alloc (.cells #[.int .i64 0, .string ByteArray.empty] 41)
  have hv := Blk.new (w.alloc (.cells (ltc m).toArray 67)) 41 [.int .i64 0, .string ByteArray.empty]
  have hbb : Below w.heap.size w ((w.alloc (.cells (ltc m).toArray 67)).alloc (.cells #[.int .i64 0, .string ByteArray.empty] 41)) := ((Below.refl _ _).alloc (Nat.le_refl _) _).alloc (by simp) _
  rw [show (w.alloc (.cells (ltc m).toArray 67)).heap.size = w.heap.size + 1 by simp] at hv
  have HS := fun W => let_arr W w.heap.size m.s.length hm
  have HC := fun W c => let_str W w.heap.size c 67 m
  go_enter Try.func37, Try.ntmps37
  go_wp2_with fail
  change Code.wp _ _ _ _ ((w.alloc (.cells (ltc m).toArray 67)).alloc (.cells #[.int .i64 0, .string ByteArray.empty] 41))
  have hle : w.heap.size ≤ w.heap.size + 1 := by omega
  generalize (w.alloc (.cells (ltc m).toArray 67)).alloc (.cells #[.int .i64 0, .string ByteArray.empty] 41) = W at *
  have hab : w.heap.size ≠ w.heap.size + 1 := by omega
  have HB := Lib.hid hbb
  generalize w.heap.size + 1 = b at *
  have hc0 : W.cell? ⟨w.heap.size, 0, none⟩ = some (.int .i64 m.f) := by rw [hb.cell]; rfl
  have hc1 : W.cell? ⟨w.heap.size, 1, none⟩ = some (.int .i64 m.s.length) := by rw [hb.cell]; rfl
  have hcv := HC W.drew 32 hb
  have HV := Lib.hid hv
  have hab' : Hid (w.heap.size ≤ b) := Lib.hid hle
  clear hbb hb hv HC hle hab
  go_still_tail 8, (by kernel_rfl)
  change wpList _ _ _ _ _ W.drew
  obtain ⟨x4, x5, x6, x7⟩ : (W.drew.cell? ⟨b, 0, none⟩ = some (.int .i64 0) ∧ W.drew.cell? ⟨b, 1, none⟩ = some (.string ByteArray.empty)) ∧ W.drew.frozen? ⟨b, 0, none⟩ = false ∧ W.drew.frozen? ⟨b, 1, none⟩ = false ∧ True := ⟨⟨HV.out.cell 0, HV.out.cell 1⟩, HV.out.frozen 0, HV.out.frozen 1, trivial⟩
  obtain ⟨x4, x8⟩ := x4
  clear x7
  have HW := Lib.hid (show Below w.heap.size w W.drew from bdrewN HB.out 1)
  generalize W.drew = wd at *
  go_wp2_with fail
  have h0 : w.heap.size ≤ b := hab'.out
  exact bodyPost_ret (v := .agg (mcs m).toArray) (by simp [mcs, results, Try.results37, go_sem, x4, x5, x6, x8]) rfl ⟨rfl, ((HW.out).setCell h0 _).setCell h0 _⟩

/-- No letter. -/
def zLet : Array Value := (.int .i64 0 :: .int .i64 0 :: bts (List.replicate 32 0) : List Value).toArray
theorem zLet_ne : ¬ (zLet = #[]) := by simp [zLet]
theorem zLet_size : zLet.size = 34 := by simp [zLet, bts_len]
theorem zLet_run (w : World) : Sem.run Try.prog (zeroValue 67) w = .ok (.agg zLet) w := by
  have hi : (Try.prog.info? 67).map (fun i => i.zero) = some (some (.agg zLet)) := by kernel_rfl
  obtain ⟨i, h1, h2⟩ := Option.map_eq_some_iff.1 hi
  simp [zeroValue, typeInfo, h1, h2]

theorem zLet_list (f : Int) : zLet.toList.set 0 (.int .i64 f) = .int .i64 f :: .int .i64 0 :: bts (List.replicate 32 0) := by simp [zLet]
theorem zLet_new (W : World) (t : TypeId) : Blk (W.alloc (.cells zLet t)) W.heap.size t zLet.toList := by
  have := Blk.new W t zLet.toList
  rwa [Array.toArray_toList] at this
theorem bts_one (l : List UInt8) : ∀ u ∈ bts l, u.oneCell' = true := by
  intro u hu
  obtain ⟨x, _, rfl⟩ := List.mem_map.1 hu
  rfl

/-- A text copied into a letter's bytes. -/
theorem let_copy {w : World} {b : Nat} {t : TypeId} {f : Int} (h : Blk w b t (.int .i64 f :: .int .i64 0 :: bts (List.replicate 32 0))) (s : ByteArray) (hs : s.size ≤ 32) :
    ∃ w1, (∀ ty, (Builtin.copy_ #[60, 9] ty #[.slice (some ⟨b, 2, none⟩) 32 32, .string s]).run Try.prog w = .ok (goInt s.size) w1) ∧ Blk w1 b t (.int .i64 f :: .int .i64 0 :: bts (s.data.toList ++ List.replicate (32 - s.data.toList.length) 0)) ∧ w.grownBy w1 (some b) := by
  have hi : (Try.prog.info? 5).map (fun i => (i.zero, i.size, i.bytes)) = some (some (.int .u8 0), 1, 1) := by kernel_rfl
  obtain ⟨i0, hi, _, hi1, _⟩ := info_parts hi
  have e3 := fun ty => Lib.run_copy_row_string (P := Try.prog) w 60 9 ty 5 b 2 32 32 s _ _ Try.underlying60 (by rw [hi]; simp [hi1]) h hs (by simp [bts_len]; omega)
  refine ⟨_, e3, ?_, grown_setRow _ _ _⟩
  have e4 : ((.int .i64 f :: .int .i64 0 :: bts (List.replicate 32 0) : List Value).take 2 ++ bts s.data.toList ++ (.int .i64 f :: .int .i64 0 :: bts (List.replicate 32 0) : List Value).drop (2 + s.size)) = .int .i64 f :: .int .i64 0 :: bts (s.data.toList ++ List.replicate (32 - s.data.toList.length) 0) := by
    rw [Nat.add_comm 2, list_len]
    rw [List.take_succ_cons, List.take_succ_cons, List.take_zero, List.drop_succ_cons, List.drop_succ_cons, bts_drop, List.drop_replicate, bts_append]
    rfl
  have e5 : ((.int .i64 f :: .int .i64 0 :: bts (List.replicate 32 0) : List Value).toArray.toList.take 2 ++ Lib.byteCells s.data.toList ++ (.int .i64 f :: .int .i64 0 :: bts (List.replicate 32 0) : List Value).toArray.toList.drop (2 + s.size)) = _ := e4
  rw [e5]
  exact h.row _

set_option maxHeartbeats 1000000 in
theorem letof_any (f : Int) (s : ByteArray) (w : World) (hs : s.size ≤ 32) :
    Calls Try.prog 33 #[.int .i64 f, .string s] w fun e w' => e = .returned (.agg (ltc ⟨f, s.data.toList⟩).toArray) ∧ Below w.heap.size w w' := by
  have hz := zLet_run
  have hne := zLet_ne
  have hsz := zLet_size
  have hll : zLet.toList.length = 34 := by rw [Array.length_toList, zLet_size]
  obtain ⟨w2, e2, k2, g2⟩ := (zLet_new (w.alloc (.cells zLet 67)) 67).over0 (P := Try.prog) (zLet.toList.set 0 (.int .i64 f)) (by rw [List.length_set]) (by
    rw [zLet_list]; intro u hu; simp only [List.mem_cons] at hu; rcases hu with rfl | rfl | hu; rfl; rfl; exact bts_one _ u hu)
  have hs1 : (w.alloc (.cells zLet 67)).heap.size = w.heap.size + 1 := by simp
  rw [hs1] at e2 k2 g2
  have a2 : Blk w2 w.heap.size 67 zLet.toList := ((zLet_new w 67).alloc _).grown g2 (by simp)
  have b2 : Below w.heap.size w w2 := (((Below.refl _ _).alloc (Nat.le_refl _) _).alloc (by simp) _).grown g2 (by simp; omega) (fun k hk => by injection hk with hk; omega)
  rw [zLet_list] at k2
  obtain ⟨w3, e3, k3, g3⟩ := let_copy k2 s hs
  have k4 := k3.set 1 (.int .i64 s.size)
  rw [show (.int .i64 f :: .int .i64 0 :: bts (s.data.toList ++ List.replicate (32 - s.data.toList.length) 0) : List Value).set 1 (.int .i64 s.size) = ltc ⟨f, s.data.toList⟩ by simp [ltc, List.set_cons_succ]] at k4
  have g4 : w2.grownBy (w3.setCell ⟨w.heap.size + 1, 1, none⟩ (.int .i64 s.size)) (some (w.heap.size + 1)) := gset g3 (.inl rfl) _
  have hc3 := k3.cell 1
  have hf3 := k3.frozen 1
  simp only [List.getElem?_cons_succ, List.getElem?_cons_zero] at hc3
  clear k3 g3 k2 g2
  have hL : (ltc ⟨f, s.data.toList⟩).length = 34 := ltc_len _ (by rw [list_len]; exact hs)
  have hr := k4.mid
  have a4 := a2.grown g4 (by simp)
  obtain ⟨w5, e6, k6, g6⟩ := a4.over0 (P := Try.prog) (ltc ⟨f, s.data.toList⟩) (by rw [hL, hll]) (ltc_one _)
  have b6 : Below w.heap.size w w5 := (b2.grown g4 (b2.size) (fun k hk => by injection hk with hk; omega)).grown g6 (by have := b2.size; have := g4.size; omega) (fun k hk => by injection hk with hk; omega)
  have HB := Lib.hid b6
  have H7 := Lib.hid k6
  have hL' : (Try.prog.info? 67).map (·.size) = some (ltc ⟨f, s.data.toList⟩).length := by rw [letSize, hL]
  clear a2 b2 k4 g4 a4 k6 g6 b6 hL
  have hCl : (ltc ⟨f, s.data.toList⟩).length = 34 := ltc_len _ (by rw [list_len]; exact hs)
  generalize hC : (ltc ⟨f, s.data.toList⟩) = C at *
  clear hC
  go_enter Try.func33, Try.ntmps33
  go_wp2_with (refine wpList_load_mid rfl 67 _ rfl _ _ rfl _ _ hr Try.underlying67 rfl hL' ?_)
  exact bodyPost_ret (results_cell_row Try.results33 _ _ w.heap.size _ _ _ _ rfl H7.out Try.underlying67 rfl (by rw [hL']; simp)) rfl ⟨rfl, HB.out⟩

theorem PS.putLet {w w1 : World} {g : Nat} {ls : List (Int × Int)} {K : Nat → Nat} {Q : Nat → List Ms} {D : Nat → Int} (d : PS w g ls K Q D) (p : Nat) (hp : p < 4) (m : Ms) (hm : m.s.length ≤ 32) (h8 : (Q p).length < 8) :
    ∃ w1, Sem.run Try.prog (storeCells ⟨g, 9 + p * 274 + 1 + (Q p).length * 34, none⟩ (ltc m)) w = .ok () w1 ∧ PS w1 g ls K (upF Q p (Q p ++ [m])) D ∧ w.grownBy w1 (some g) := by
  obtain ⟨cs, hb, c⟩ := d.blk
  have hl := c.len
  have hL := ltc_len m hm
  obtain ⟨w1, e1, k1, g1⟩ := hb.over (P := Try.prog) (9 + p * 274 + 1 + (Q p).length * 34) (ltc m) (by omega) (ltc_one m)
  have hlen : (List.take (9 + p * 274 + 1 + (Q p).length * 34) cs).length = 9 + p * 274 + 1 + (Q p).length * 34 := by rw [List.length_take]; omega
  generalize ho : 9 + p * 274 + 1 + (Q p).length * 34 = o at *
  have hq := lcs_len _ (d.q8 p).2
  refine ⟨w1, e1, d.over p hp (Q p ++ [m]) (by simp; omega) ((d.q8 p).2.snoc hm) k1 (by simp; omega) (fun cs2 hb2 i hi => ?_) (fun j v hj => ?_), g1⟩
  · obtain rfl := hb.same hb2
    rcases hi with hi | hi
    · rw [List.append_assoc, List.getElem?_append_left (by omega), List.getElem?_take_of_lt (by omega)]
    · rw [List.getElem?_append_right (by rw [List.length_append]; omega), List.getElem?_drop, List.length_append, hlen, hL]
      congr 1; omega
  · rw [lcs_append, lcs_one1] at hj
    by_cases h1 : j < (lcs (Q p)).length
    · rw [List.getElem?_append_left h1] at hj
      rw [List.append_assoc, List.getElem?_append_left (by omega), List.getElem?_take_of_lt (by omega)]
      exact c.let_ p hp j v hj
    · rw [List.getElem?_append_right (by omega)] at hj
      have h2 := (List.getElem?_eq_some_iff.1 hj).1
      rw [List.getElem?_append_left (by rw [List.length_append]; omega), List.getElem?_append_right (by omega), ← hj]
      congr 1; omega

set_option maxHeartbeats 1000000 in
theorem qadd_any (p : Nat) (hp : p < 4) (m : Ms) (hm : m.s.length ≤ 32) (d : PS w g ls (kq Q) Q D) :
    Calls Try.prog 32 #[.pointer (some ⟨g, 9 + p * 274, none⟩), .agg (ltc m).toArray] w fun e w' => e = .returned (.tuple #[]) ∧ PS w' g ls (kq (adQ Q p m)) (adQ Q p m) (adD Q D p) ∧ w.grownBy w' (some g) := by
  have hL := ltc_len m hm
  have d1 := d.below ((Below.refl _ w).alloc (Nat.le_refl _) (.cells (ltc m).toArray 67))
  have hb := Blk.new w 67 (ltc m)
  have hg1 : w.grownBy (w.alloc (.cells (ltc m).toArray 67)) (some g) := galloc (grefl _ _) _
  have c0 := d1.cnt p hp
  rw [show kq Q p = (Q p).length from rfl] at c0
  have h8 := (d.q8 p).1
  by_cases h : (Q p).length < 8
  · have hX : adQ Q p m = upF Q p (Q p ++ [m]) ∧ adD Q D p = D := by unfold adQ adD; rw [if_pos h, if_pos h]; exact ⟨rfl, rfl⟩
    rw [hX.1, hX.2]
    have hC : (ltc m).toArray.size = 34 := by simp [hL]
    have hr : (w.alloc (.cells (ltc m).toArray 67)).drew.rangeAt w.heap.size 0 (ltc m) := hb.mid
    have hL' : (Try.prog.info? 67).map (·.size) = some (ltc m).length := by rw [letSize, hL]
    obtain ⟨w2, e2, d2, g2⟩ := (d1.drewN 1).putLet (w1 := w) p hp m hm h
    have HK : Hid (kq (upF Q p (Q p ++ [m])) = upF (kq Q) p ((Q p).length + 1)) := Lib.hid (by rw [kq_up]; simp)
    have d3 := d2.setCnt p hp ((Q p).length + 1)
    have c2 := d2.cnt p hp
    have f2 := d2.frozen (9 + p * 274)
    rw [show kq Q p = (Q p).length from rfl] at c2
    have D3 := Lib.hid d3
    have G2 := Lib.hid g2
    have hk : (((Q p).length : Nat) : Int) < 8 := by omega
    generalize (Q p).length = n at *
    clear d d1 hb d2 d3 g2 hX
    go_enter Try.func32, Try.ntmps32
    go_wp2_with fail
    generalize w.alloc (.cells (ltc m).toArray 67) = W at *
    go_still_tail 9, (by kernel_rfl)
    refine wpStill_load_mid (by kernel_rfl) 67 (.tmp 3) rfl _ _ rfl _ _ hr Try.underlying67 rfl hL' ?_
    repeat still_step
    refine wpStill_nil ?_
    change wpList _ _ _ _ _ W.drew
    replace e2 : Sem.run Try.prog (storeCells ⟨g, 9 + p * 274 + 1 + n * 34, none⟩ (ltc m)) W.drew = .ok () w2 := e2
    clear hr hL hL' c0
    have HG := Lib.hid (show w.grownBy (w2.setCell ⟨g, 9 + p * 274, none⟩ (.int .i64 ((n : Int) + 1))) (some g) from gset (gtrans (gdrewN hg1 1) G2.out) (.inl rfl) _)
    have D4 := D3.out
    rw [show ((n + 1 : Nat) : Int) = (n : Int) + 1 from rfl] at D4
    replace D4 := Lib.hid D4
    generalize W.drew = wd at *
    clear G2 hg1 D3
    go_wp2_with fail
    go_end0
    exact ⟨rfl, by rw [HK.out]; exact D4.out, HG.out⟩
  · have hX : adQ Q p m = Q ∧ adD Q D p = iF D p (min (D p + 1) 65535) := by unfold adQ adD; rw [if_neg h, if_neg h]; exact ⟨rfl, rfl⟩
    rw [hX.1, hX.2]
    have h9 : (Q p).length = 8 := by omega
    rw [h9] at c0
    have c1 := d1.drp p hp
    have hd := d.d0 p
    have f1 := d1.frozen (9 + p * 274 + 273)
    have D1 := Lib.hid d1
    have hC : (ltc m).toArray.size = 34 := by simp [hL]
    clear hX d d1 hb
    go_enter Try.func32, Try.ntmps32
    go_wp2_with fail
    all_goals
      refine bodyPost_ret (results_none rfl _ _ _) rfl ⟨rfl, ?_, gset hg1 (.inl rfl) _⟩
      exact D1.out.setDrp p hp _ (by omega)
end

end Go.Proofs.Ytfkdohnpfjdehaa
