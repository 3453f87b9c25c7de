/-
  Layer 20, the program: Delete over a queue's letters; take.
-/
import Derived.Test.YtfkdohnpfjdehaaNc1
import Derived.Test.YtfkdohnpfjdehaaRun
namespace Go.Proofs.Ytfkdohnpfjdehaa
open Go.RowKit
set_option linter.unusedVariables false
set_option linter.unusedSimpArgs false
set_option maxRecDepth 100000

theorem letInfo : (Try.prog.info? 67).map (fun i => (i.zero, i.size)) = some (some (.agg zLet), 34) := by kernel_rfl

/-- The letters from the k-th on. -/
theorem lsl_from (w : World) (g o len cap k : Nat) (hk : k < cap) (hl : k ≤ len) : (Instr.slice 86 (.slice (some ⟨g, o, none⟩) len cap) (some (.int .i64 (k : Int))) none none).run Try.prog w = .ok (.slice (some ⟨g, o + k * 34, none⟩) (len - k) (cap - k)) w := by
  obtain ⟨i0, hi, h2⟩ := Option.map_eq_some_iff.1 letSize
  have he : Try.prog.elem 86 = 67 := by kernel_rfl
  have hz : (Go.sizeOf 67).run Try.prog w = .ok 34 w := by simp [Go.sizeOf, typeInfo, hi, h2]
  rw [run_slice_l w 86 (some ⟨g, o, none⟩) len cap (by rw [he]; exact Try.underlying86) .i64 _ (by omega) (by omega), he, hz]
  have : ¬ (cap = k) := by omega
  simp [Result.andThen, sliced, this, add_none]

/-- 'append' of letters to none, where there is room: within a block. -/
theorem run_append_lt (w : World) (ty : TypeId) (g o sCap m c : Nat) (a : Addr) (cur news : List Value) (t : TypeId) (h : Blk w g t cur) (hl : news.length = m * 34) (hnews : ∀ j u, news[j]? = some u → w.cell? (a.add j) = some u)
    (h1 : ∀ u ∈ news, u.oneCell' = true) (hroom : m ≤ sCap) (hfit : o + news.length ≤ cur.length) :
    (Builtin.append_ #[86, 86] ty #[.slice (some ⟨g, o, none⟩) 0 sCap, .slice (some a) m c]).run Try.prog w = .ok (.slice (some ⟨g, o, none⟩) m sCap) (w.setRow g (cur.take o ++ news ++ cur.drop (o + news.length)).toArray) := by
  obtain ⟨i, hi, h2⟩ := Option.map_eq_some_iff.1 letSize
  have hf := run_firstCells_some (P := Try.prog) w i.size m a m c news (by rw [h2]; exact hl) hnews
  have hst := run_storeCells_at Try.prog g o t news 0 cur.toArray w h (by simpa using hfit) h1
  simp only [Nat.add_zero] at hst
  simp [Builtin.append_, run_underlying Try.underlying86, sizeOf, typeInfo, hi, Builtin.lenOf, hroom, hf, add_none, hst]

/-- 'clear' of one letter within a block. -/
theorem run_clear_lt (w : World) (ty : TypeId) (g o c : Nat) (cur : List Value) (t : TypeId) (h : Blk w g t cur) (hfit : o + 34 ≤ cur.length) :
    (Builtin.clear_ #[86] ty #[.slice (some ⟨g, o, none⟩) 1 c]).run Try.prog w = .ok (.tuple #[]) (w.setRow g (cur.take o ++ zLet.toList ++ cur.drop (o + 34)).toArray) := by
  obtain ⟨i0, hi, h2⟩ := Option.map_eq_some_iff.1 letInfo
  simp only [Prod.mk.injEq] at h2
  have hll : zLet.toList.length = 34 := by rw [Array.length_toList, zLet_size]
  have hst := run_storeCells_at Try.prog g o t zLet.toList 0 cur.toArray w h (by rw [hll]; simpa using hfit) (by
    intro v hv
    simp only [zLet, List.mem_cons] at hv
    rcases hv with rfl | rfl | hv
    · rfl
    · rfl
    · exact bts_one _ v hv)
  simp only [Nat.add_zero, hll] at hst
  have hzc : (Builtin.zeroCells (Value.agg zLet).cells 1).toList = zLet.toList := by kernel_rfl
  simp [Builtin.clear_, run_underlying Try.underlying86, zeroValue, typeInfo, hi, h2.1, hzc, hst]

theorem upF_up {α : Type} (F : Nat → α) (k : Nat) (x y : α) : upF (upF F k x) k y = upF F k y := by funext i; unfold upF; split <;> rfl

section
variable {w : World} {g : Nat} {ls : List (Int × Int)} {K : Nat → Nat} {Q : Nat → List Ms} {D : Nat → Int}
/-- A queue's letters behind the first one, copied to the front. -/
theorem PS.shift (d : PS w g ls K Q D) (p : Nat) (hp : p < 4) (m : Ms) (q : List Ms) (hq : Q p = m :: q) : ∃ w1, (∀ ty c, (Builtin.append_ #[86, 86] ty #[.slice (some ⟨g, 9 + p * 274 + 1, none⟩) 0 8, .slice (some ⟨g, 9 + p * 274 + 1 + 34, none⟩) q.length c]).run Try.prog w = .ok (.slice (some ⟨g, 9 + p * 274 + 1, none⟩) q.length 8) w1) ∧ PS w1 g ls K (upF Q p q) D ∧ w.grownBy w1 (some g) := by
  obtain ⟨cs, hb, c⟩ := d.blk
  have hl := c.len
  obtain ⟨h8, hok⟩ := d.q8 p
  rw [hq] at h8 hok
  simp only [List.length_cons] at h8
  have hL := lcs_len q hok.tail
  have hm := ltc_len m hok.head
  have hin : ∀ j v, (lcs q)[j]? = some v → cs[9 + p * 274 + 1 + 34 + j]? = some v := fun j v hj => by
    rw [Nat.add_assoc]
    refine c.let_ p hp (34 + j) v ?_
    rw [hq, lcs_cons, List.getElem?_append_right (by omega), hm, show 34 + j - 34 = j by omega]; exact hj
  refine ⟨_, fun ty c => run_append_lt w ty g (9 + p * 274 + 1) 8 q.length c ⟨g, 9 + p * 274 + 1 + 34, none⟩ cs (lcs q) _ hb hL (fun j u hu => by rw [add_none, hb.cell]; exact hin j u hu) (lcs_oneCell q) (by omega) (by omega), ?_, grown_setRow _ _ _⟩
  have hlen : (List.take (9 + p * 274 + 1) cs).length = 9 + p * 274 + 1 := by rw [List.length_take]; omega
  refine d.over p hp q (by omega) hok.tail (hb.row _) (by simp; omega) (fun cs2 hb2 i hi => ?_) (fun j v hj => ?_)
  · obtain rfl := hb.same hb2
    rcases hi with hi | hi
    · rw [List.append_assoc, List.getElem?_append_left (by omega), List.getElem?_take_of_lt (by omega)]
    · rw [List.getElem?_append_right (by rw [List.length_append]; omega), List.getElem?_drop, List.length_append, hlen, hL]
      congr 1; omega
  · have h2 := (List.getElem?_eq_some_iff.1 hj).1
    rw [List.getElem?_append_left (by rw [List.length_append]; omega), List.getElem?_append_right (by omega), ← hj]
    congr 1; omega
/-- One behind the last one, cleared. -/
theorem PS.wipe (d : PS w g ls K Q D) (p : Nat) (hp : p < 4) (n : Nat) (hn : (Q p).length = n) (h8 : n < 8) : ∃ w1, (∀ ty c, (Builtin.clear_ #[86] ty #[.slice (some ⟨g, 9 + p * 274 + 1 + n * 34, none⟩) 1 c]).run Try.prog w = .ok (.tuple #[]) w1) ∧ PS w1 g ls K Q D ∧ w.grownBy w1 (some g) := by
  obtain ⟨cs, hb, c⟩ := d.blk
  have hl := c.len
  obtain ⟨_, hok⟩ := d.q8 p
  have hL := lcs_len _ hok
  have hll : zLet.toList.length = 34 := by rw [Array.length_toList, zLet_size]
  refine ⟨_, fun ty c => run_clear_lt w ty g (9 + p * 274 + 1 + n * 34) c cs _ hb (by omega), ?_, grown_setRow _ _ _⟩
  have e : upF Q p (Q p) = Q := by funext i; unfold upF; split; (next h => rw [h]); rfl
  rw [← e]
  generalize hz : zLet.toList = Z at *
  have hlen : (List.take (9 + p * 274 + 1 + n * 34) cs).length = 9 + p * 274 + 1 + n * 34 := by rw [List.length_take]; omega
  refine d.over p hp (Q p) (by omega) hok (hb.row _) (by simp; omega) (fun cs2 hb2 i hi => ?_) (fun j v hj => ?_)
  · obtain rfl := hb.same hb2
    rcases hi with hi | hi
    · rw [List.append_assoc, List.getElem?_append_left (by omega), List.getElem?_take_of_lt (by omega)]
    · rw [List.getElem?_append_right (by rw [List.length_append]; omega), List.getElem?_drop, List.length_append, hlen]
      congr 1; omega
  · have h2 := (List.getElem?_eq_some_iff.1 hj).1
    rw [List.append_assoc, List.getElem?_append_left (by omega), List.getElem?_take_of_lt (by omega)]
    exact c.let_ p hp j v hj

set_option maxRecDepth 100000 in
theorem sdel_any (p : Nat) (hp : p < 4) (m : Ms) (q : List Ms) (d : PS w g ls K Q D) (hq : Q p = m :: q) :
    Calls Try.prog 39 #[.slice (some ⟨g, 9 + p * 274 + 1, none⟩) (q.length + 1 : Nat) 8, .int .i64 0, .int .i64 1] w fun e w' => e = .returned (.slice (some ⟨g, 9 + p * 274 + 1, none⟩) q.length 8) ∧ PS w' g ls K (upF Q p q) D ∧ w.grownBy w' (some g) := by
  have h8 := (d.q8 p).1
  rw [hq] at h8
  simp only [List.length_cons] at h8
  obtain ⟨w1, ha, h1, g1⟩ := PS.shift (show PS w.drew g ls K Q D from d.drewN 1) p hp m q hq
  obtain ⟨w2, hc, h2, g2⟩ := h1.wipe p hp q.length (by rw [upF_here]) (by omega)
  generalize q.length = n at *
  have hg12 : w.grownBy w2 (some g) := gtrans (show w.grownBy w1 (some g) from ⟨g1.os, g1.tape, g1.output, g1.size, g1.block⟩) g2
  have H2 := Lib.hid h2; have HG := Lib.hid hg12
  clear h1 d g1 g2 hq h2 hg12
  generalize 9 + p * 274 + 1 = o at *
  have hsl := fun w => lsl_from w g o (n + 1) 8 1 (by omega) (by omega)
  simp only [show n + 1 - 1 = n by omega, show 8 - 1 = 7 by omega, show o + 1 * 34 = o + 34 by omega] at hsl
  have hsl2 : ∀ w, (Instr.slice 86 (.slice (some ⟨g, o, none⟩) (n + 1) 8) (some (.int .i64 1)) none none).run Try.prog w = _ := hsl
  clear hsl
  go_enter Try.func39, Try.ntmps39
  go_wp2_with fail
  go_still_tail 6, (by kernel_rfl)
  change wpList _ _ _ _ _ w.drew
  refine wpList_append_run rfl _ _ _ rfl _ _ _ _ rfl rfl (ha _ _) ?_
  clear ha
  go_wp2_with fail
  go_ret
  exact ⟨rfl, H2.out, HG.out⟩
theorem results_cell_tmp_row {P : Program} {fn : Func} {p q : Tmp} {ty : TypeId} (h : fn.results = #[.cell p ty, .tmp q]) (tmps : Array Value) (w : World) (g : Nat) (t : TypeId) (cs : List Value) (d : TypeDesc)
    (hp : tmps.getD p undef = .pointer (some ⟨g, 0, none⟩)) (hg : Blk w g t cs)
    (hu : P.underlying ty = some d) (hd : d.isRow = true) (hi : (P.info? ty).map (·.size) = some cs.length) :
    (results fn tmps).run P w = .ok (.tuple #[.agg cs.toArray, tmps.getD q undef]) w := by
  have hp' : tmps[p]?.getD undef = .pointer (some ⟨g, 0, none⟩) := by simpa using hp
  simp [results, h, hp', asAddr, run_loadVar_mid w g 0 ty cs d hg.mid hu hd hi]

set_option maxHeartbeats 1000000 in
theorem qtake_none (p : Nat) (hp : p < 4) (d : PS w g ls (kq Q) Q D) (hq : Q p = []) :
    Calls Try.prog 36 #[.pointer (some ⟨g, 9 + p * 274, none⟩)] w fun e w' => e = .returned (.tuple #[.agg zLet, .bool false]) ∧ Below w.heap.size w w' := by
  have hz := zLet_run
  have hne := zLet_ne
  have hsz := zLet_size
  have hll : zLet.toList.length = 34 := by rw [Array.length_toList, zLet_size]
  have hb := zLet_new w 67
  have b0 : Below w.heap.size w (w.alloc (.cells zLet 67)) := (Below.refl _ _).alloc (Nat.le_refl _) _
  have D1 := Lib.hid (d.below b0)
  have HQ : Hid (kq Q p = 0) := Lib.hid (by unfold kq; rw [hq]; rfl)
  clear hq d
  go_enter Try.func36, Try.ntmps36
  go_wp2_with fail
  generalize w.alloc (.cells zLet 67) = w1 at *
  have hlt := hb.lt
  generalize hbk : w.heap.size = b at *
  refine (qrow_any p hp D1.out (by rw [HQ.out]; omega)).mono ?_
  rintro e w2 ⟨rfl, n, rfl⟩
  rw [HQ.out]
  obtain ⟨w3, e3, k3, g3⟩ := (hb.drewN n).over0 (P := Try.prog) zLet.toList (by rfl) (by
    intro v hv
    simp only [zLet, List.mem_cons] at hv
    rcases hv with rfl | rfl | hv
    · rfl
    · rfl
    · exact bts_one _ v hv)
  have HB := Lib.hid (show Below b w w3 from (bdrewN b0 n).grown g3 (by show b ≤ w1.heap.size; omega) (fun k hk => by injection hk with hk; omega))
  have K3 := Lib.hid k3
  clear hb b0 D1 HQ k3 g3
  generalize w1.drewN n = wd at *
  go_wp2_with fail
  exact bodyPost_ret (by rw [results_cell_tmp_row Try.results36 _ _ b _ zLet.toList _ rfl K3.out Try.underlying67 rfl (by rw [letSize, hll])]) rfl ⟨by rw [Array.toArray_toList]; rfl, by rw [hbk]; exact HB.out⟩

set_option maxHeartbeats 1000000 in
theorem qtake_some (p : Nat) (hp : p < 4) (m : Ms) (q : List Ms) (d : PS w g ls (kq Q) Q D) (hq : Q p = m :: q) :
    Calls Try.prog 36 #[.pointer (some ⟨g, 9 + p * 274, none⟩)] w fun e w' => e = .returned (.tuple #[.agg (ltc m).toArray, .bool true]) ∧ PS w' g ls (kq (upF Q p q)) (upF Q p q) D ∧ w.grownBy w' (some g) := by
  have hz := zLet_run
  have hne := zLet_ne
  have hsz := zLet_size
  have hll : zLet.toList.length = 34 := by rw [Array.length_toList, zLet_size]
  have hb := zLet_new w 67
  have b0 : Below w.heap.size w (w.alloc (.cells zLet 67)) := (Below.refl _ _).alloc (Nat.le_refl _) _
  have D1 := Lib.hid (d.below b0)
  have HQ : Hid (kq Q p = q.length + 1) := Lib.hid (by unfold kq; rw [hq]; rfl)
  obtain ⟨h8, hok⟩ := d.q8 p
  rw [hq] at h8 hok
  simp only [List.length_cons] at h8
  have hL := ltc_len m hok.head
  have HQ2 := Lib.hid hq
  have hgl := d.lt
  clear hq d hok
  go_enter Try.func36, Try.ntmps36
  go_wp2_with fail
  generalize w.alloc (.cells zLet 67) = w1 at *
  have hlt := hb.lt
  generalize hbk : w.heap.size = b at *
  refine (qrow_any p hp D1.out (by rw [HQ.out]; omega)).mono ?_
  rintro e w2 ⟨rfl, n, rfl⟩
  rw [HQ.out]
  have d2 := D1.out.drewN n
  have hb2 := hb.drewN n
  have b2 := bdrewN b0 n
  have hlt2 : b < (w1.drewN n).heap.size := hlt
  clear hb b0 D1 hlt
  generalize w1.drewN n = wd at *
  have hr : wd.rangeAt g (9 + p * 274 + 1) (ltc m) := by
    have := d2.range p hp 0 (by rw [HQ2.out]; simp)
    rw [Nat.zero_mul, Nat.add_zero] at this
    simpa only [HQ2.out, List.getElem_cons_zero] using this
  have hi : (Try.prog.info? 67).map (·.size) = some (ltc m).length := by rw [letSize, hL]
  obtain ⟨w4, e4, k4, g4⟩ := (zLet_new wd 67).over0 (P := Try.prog) (ltc m) (by rw [hL, hll]) (ltc_one m)
  have hbe := d2.lt
  have d4 := d2.keep (w' := w4) ((g4.block g (by simp; omega) (by simp; omega)).trans (Below.heap_alloc wd _ g hbe))
  have hb4 : Blk w4 b 67 zLet.toList := (hb2.alloc _).grown g4 (by simp; omega)
  have b4 : Below b w w4 := (b2.alloc (by omega) _).grown g4 (by simp; omega) (fun k hk => by injection hk with hk; omega)
  have hl4 := b4.size
  have hlt4 := k4.lt
  have hnb : wd.heap.size ≠ b := by omega
  have hng : wd.heap.size ≠ g := by omega
  clear d2 hb2 b2 g4
  have D4 := Lib.hid d4; have HB4 := Lib.hid hb4; have B4 := Lib.hid b4; have K4 := Lib.hid k4
  clear d4 hb4 b4 k4
  go_wp2_with (refine wpList_load_mid rfl 67 _ rfl _ _ rfl _ _ hr Try.underlying67 rfl hi ?_)
  generalize wd.heap.size = b' at *
  refine (sdel_any p hp m q D4.out HQ2.out).mono ?_
  rintro e w5 ⟨rfl, d5, g5⟩
  have k5 := K4.out.grown g5 (by simp; omega)
  have hb5 := HB4.out.grown g5 (by simp; omega)
  have c5 := d5.cnt p hp
  have f5 := d5.frozen (9 + p * 274)
  have d6 := d5.setCnt p hp q.length
  have k6 := k5.far (p := ⟨g, 9 + p * 274, none⟩) (by simp; omega) (.int .i64 q.length)
  have hb6 := hb5.far (p := ⟨g, 9 + p * 274, none⟩) (by simp; omega) (.int .i64 q.length)
  obtain ⟨w7, e7, k7, g7⟩ := hb6.over0 (P := Try.prog) (ltc m) (by rw [hL, hll]) (ltc_one m)
  have d7 := d6.keep (w' := w7) (g7.block g d6.lt (by simp; omega))
  have hr6 := k6.mid
  have HK : kq (upF Q p q) = upF (kq Q) p q.length := kq_up _ _ _
  rw [← HK] at d7
  have HD7 := Lib.hid d7
  have K7 := Lib.hid k7
  have HG : Hid (w.grownBy w7 (some g)) := Lib.hid (by
    have h5 : w.grownBy (w5.setCell ⟨g, 9 + p * 274, none⟩ (.int .i64 q.length)) (some g) := gset (gtrans (gof (by rw [hbk]; exact B4.out) _) g5) (.inl rfl) _
    refine ⟨g7.os.trans h5.os, g7.tape.trans h5.tape, g7.output.trans h5.output, Nat.le_trans h5.size g7.size, fun i hi2 hne => (g7.block i (Nat.lt_of_lt_of_le hi2 h5.size) (fun e => by injection e with e; omega)).trans (h5.block i hi2 hne)⟩)
  clear d5 g5 k5 hb5 d6 k6 hb6 g7 d7 k7 HK D4 HB4 K4 hr e4
  have hi2 : (Try.prog.info? 67).map (·.size) = some (ltc m).length := hi
  have hC := hL
  have hCs : (ltc m).toArray.size = 34 := by simp [hL]
  generalize hCC : ltc m = C at *
  go_wp2_with (refine wpList_load_mid rfl 67 _ rfl _ _ rfl _ _ hr6 Try.underlying67 rfl hi2 ?_)
  exact bodyPost_ret (v := .tuple #[.agg C.toArray, .bool true]) (by rw [results_cell_tmp_row Try.results36 _ _ b _ C _ rfl K7.out Try.underlying67 rfl (by rw [hi2])]; rfl) rfl ⟨by rw [hCC], HD7.out, HG.out⟩
end

end Go.Proofs.Ytfkdohnpfjdehaa
