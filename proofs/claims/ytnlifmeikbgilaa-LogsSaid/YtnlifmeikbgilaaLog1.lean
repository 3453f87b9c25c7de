/-
  Contracts of package faults: New, Add, Take.
-/
import Derived.Test.YtnlifmeikbgilaaLog0
import Derived.Test.YtnlifmeikbgilaaPlain2
import Derived.Test.YtnlifmeikbgilaaChecked
import Derived.StillTailTactics
import Derived.Deep.RegionLaw
import Derived.Deep.DrawnRows
import Derived.Deep.AppendLies
namespace Go.Proofs.Ytnlifmeikbgilaa
open Go.RowKit
set_option linter.unusedVariables false
set_option maxRecDepth 100000

/-- The program's log: at block g, c how many are kept, l those, k how many were only counted. -/
def PF (w : World) (g : Nat) (c : Nat) (l : List Fl) (k : Nat) : Prop :=
  ∃ z : List Value, l.length * 5 + z.length = 80 ∧ Blk w g 44 (.int .i64 c :: .int .i64 l.length :: (fls l ++ z ++ [.int .i64 k]))

section
variable {w w' : World} {g c k : Nat} {l : List Fl}
theorem PF.lt (h : PF w g c l k) : g < w.heap.size := by obtain ⟨z, _, hb⟩ := h; exact hb.lt
theorem PF.len (h : PF w g c l k) : l.length ≤ 16 := by obtain ⟨z, hz, _⟩ := h; omega
theorem PF.size (h : PF w g c l k) : w.cell? ⟨g, 0, none⟩ = some (.int .i64 c) := by obtain ⟨z, _, hb⟩ := h; rw [hb.cell]; rfl
theorem PF.count (h : PF w g c l k) : w.cell? ⟨g, 1, none⟩ = some (.int .i64 l.length) := by obtain ⟨z, _, hb⟩ := h; rw [hb.cell]; rfl
theorem PF.drops (h : PF w g c l k) : w.cell? ⟨g, 82, none⟩ = some (.int .i64 k) := by
  obtain ⟨z, hz, hb⟩ := h
  have hl := fls_len l
  rw [hb.cell]
  simp only [show (82 : Nat) = 80 + 1 + 1 by rfl, List.getElem?_cons_succ]
  rw [List.getElem?_append_right (by rw [List.length_append]; omega), show 80 - (fls l ++ z).length = 0 by rw [List.length_append]; omega]
  rfl
theorem PF.frozen (h : PF w g c l k) (i : Nat) : w.frozen? ⟨g, i, none⟩ = false := by obtain ⟨z, _, hb⟩ := h; exact hb.frozen i
theorem PF.drewN (h : PF w g c l k) (n : Nat) : PF (w.drewN n) g c l k := h
theorem PF.alloc (h : PF w g c l k) (o : Obj) : PF (w.alloc o) g c l k := by obtain ⟨z, hz, hb⟩ := h; exact ⟨z, hz, hb.alloc o⟩
theorem PF.below {B : Nat} (h : PF w g c l k) (hb : Below B w w') (hg : g < B) : PF w' g c l k := by obtain ⟨z, hz, h⟩ := h; exact ⟨z, hz, h.below hb hg⟩
theorem PF.grown {row : Option Nat} (h : PF w g c l k) (hb : w.grownBy w' row) (hg : some g ≠ row) : PF w' g c l k := by obtain ⟨z, hz, h⟩ := h; exact ⟨z, hz, h.grown hb hg⟩
theorem PF.apart {a : Nat} {t : TypeId} {cs : List Value} (h : PF w g c l k) (ha : Blk w a t cs) (ht : 44 ≠ t) : g ≠ a := by obtain ⟨z, hz, hb⟩ := h; exact hb.apart ha ht
/-- A fault's cells. -/
theorem PF.at_ (h : PF w g c l k) (j : Nat) (u : Value) (hu : (fls l)[j]? = some u) : w.cell? ⟨g, 2 + j, none⟩ = some u := by
  obtain ⟨z, hz, hb⟩ := h
  have hj : j < (fls l).length := (List.getElem?_eq_some_iff.1 hu).1
  rw [hb.cell]
  simp only [show 2 + j = j + 1 + 1 by omega, List.getElem?_cons_succ]
  rw [List.append_assoc, List.getElem?_append_left hj, hu]
theorem PF.drops_ (h : PF w g c l k) (k' : Nat) : PF (w.setCell ⟨g, 82, none⟩ (.int .i64 k')) g c l k' := by
  obtain ⟨z, hz, hb⟩ := h
  refine ⟨z, hz, ?_⟩
  have h4 := hb.set 82 (.int .i64 k')
  have hl := fls_len l
  simp only [show (82 : Nat) = 80 + 1 + 1 by rfl, List.set_cons_succ] at h4
  rw [List.set_append_right _ _ (by rw [List.length_append]; omega), show 80 - (fls l ++ z).length = 0 by rw [List.length_append]; omega] at h4
  exact h4
/-- A fault behind the last, and its count. -/
theorem PF.put (h : PF w g c l k) (hl : l.length ≤ 15) (x : Fl) : PF ((((((w.setCell ⟨g, 2 + l.length * 5, none⟩ (.int .i64 x.t)).setCell ⟨g, 2 + l.length * 5 + 1, none⟩ (.int .i64 x.d)).setCell ⟨g, 2 + l.length * 5 + 2, none⟩ (.int .i64 x.i)).setCell ⟨g, 2 + l.length * 5 + 3, none⟩ (.bool x.w)).setCell ⟨g, 2 + l.length * 5 + 4, none⟩ (.int .i64 x.c)).setCell ⟨g, 1, none⟩ (.int .i64 (l.length + 1))) g c (l ++ [x]) k := by
  obtain ⟨z, hz, hb⟩ := h
  have h4 := (((((hb.set (2 + l.length * 5) (.int .i64 x.t)).set (2 + l.length * 5 + 1) (.int .i64 x.d)).set (2 + l.length * 5 + 2) (.int .i64 x.i)).set (2 + l.length * 5 + 3) (.bool x.w)).set (2 + l.length * 5 + 4) (.int .i64 x.c)).set 1 (.int .i64 (l.length + 1))
  refine ⟨z.drop 5, by simp; omega, ?_⟩
  have e := fls_put l (z ++ [.int .i64 k]) x (by simp; omega)
  rw [List.drop_append_of_le_length (by omega)] at e
  generalize hk : l.length * 5 = q at *
  rw [show 2 + q + 4 = (q + 4) + 1 + 1 by omega, show 2 + q + 3 = (q + 3) + 1 + 1 by omega, show 2 + q + 2 = (q + 2) + 1 + 1 by omega, show 2 + q + 1 = (q + 1) + 1 + 1 by omega, show 2 + q = q + 1 + 1 by omega] at h4 ⊢
  simp only [List.set_cons_succ, List.set_cons_zero, List.append_assoc] at h4
  rw [e] at h4
  rw [List.append_assoc, show ((l ++ [x]).length : Int) = (l.length : Int) + 1 by simp]
  exact h4
/-- The cells behind the last fault may be written. -/
theorem PF.room (h : PF w g c l k) (hl : l.length ≤ 15) (j : Nat) (hj : j < 5) : ∃ u, w.cell? ⟨g, 2 + l.length * 5 + j, none⟩ = some u := by
  obtain ⟨z, hz, hb⟩ := h
  have hfl := fls_len l
  exact ⟨_, by rw [hb.cell]; exact List.getElem?_eq_getElem (by simp; omega)⟩
end
theorem setCells5_grown (w : World) (g : Nat) (a b c d e f : Addr) (ha : a.block = g) (hb : b.block = g) (hc : c.block = g) (hd : d.block = g) (he : e.block = g) (hf : f.block = g) (x y z u v s : Value) : w.grownBy ((((((w.setCell a x).setCell b y).setCell c z).setCell d u).setCell e v).setCell f s) (some g) :=
  gset (gset (gset (gset (gset (gset (grefl w _) (.inl ha) x) (.inl hb) y) (.inl hc) z) (.inl hd) u) (.inl he) v) (.inl hf) s

theorem lnew_no (c : Int) (w : World) (h : ¬ (1 ≤ c ∧ c ≤ 16)) :
    Calls Try.prog 5 #[.int .i64 c] w fun e w' => e = .returned (.tuple #[.pointer none, .int .i64 800]) ∧ w = w' := by
  by_cases h1 : c < 1
  · clear h
    go_enter Try.func5, Try.ntmps5
    go_wp2
    go_ret2
    exact ⟨rfl, rfl⟩
  · have h2 : 16 < c := by omega
    clear h
    go_enter Try.func5, Try.ntmps5
    go_wp2
    go_ret2
    exact ⟨rfl, rfl⟩

/-- The cells of a new one: kept closed to the walk. -/
def zFl : List Value := [.int .i64 0, .int .i64 0, .int .i64 0, .bool false, .int .i64 0]
def zFls : List Value := (List.replicate 16 zFl).flatten
theorem zFls_len : zFls.length = 80 := by decide
def zLog : Array Value := (Value.int .i64 0 :: .int .i64 0 :: (zFls ++ [.int .i64 0])).toArray
theorem zLog_ne : ¬ (zLog = #[]) := by simp [zLog]
theorem zLog_run (w : World) : Sem.run Try.prog (zeroValue 44) w = .ok (.agg zLog) w := by
  have hi : (Try.prog.info? 44).map (fun i => i.zero) = some (some (.agg zLog)) := by kernel_rfl
  cases h : Try.prog.info? 44 with
  | none => rw [h] at hi; cases hi
  | some i =>
    rw [h] at hi
    simp only [Option.map_some, Option.some.injEq] at hi
    simp [zeroValue, typeInfo, h, hi]
theorem zLog_set (c : Int) : zLog.setIfInBounds 0 (.int .i64 c) = (.int .i64 c :: .int .i64 ([] : List Fl).length :: (fls [] ++ zFls ++ [.int .i64 (0 : Nat)]) : List Value).toArray := by
  simp [zLog, fls_nil]

theorem lnew_yes (c : Nat) (w : World) (h1 : 1 ≤ c) (h2 : c ≤ 16) :
    Calls Try.prog 5 #[.int .i64 c] w fun e w' => e = .returned (.tuple #[.pointer (some ⟨w.heap.size, 0, none⟩), .int .i64 0]) ∧ PF w' w.heap.size c [] 0 ∧ Below w.heap.size w w' := by
  have hz := zLog_run
  have hne := zLog_ne
  have h3 : decide ((c : Int) < 1) = false := by simp; omega
  have h4 : decide ((16 : Int) < c) = false := by simp; omega
  go_enter Try.func5, Try.ntmps5
  go_wp2
  go_ret2
  refine ⟨rfl, ?_, (Below.refl _ _).alloc (Nat.le_refl _) _⟩
  rw [zLog_set]
  exact ⟨zFls, by rw [zFls_len]; simp, Blk.new _ _ _⟩

set_option maxRecDepth 100000 in
theorem ladd_full (g c : Nat) (l : List Fl) (k : Nat) (x : Fl) (w : World) (h : PF w g c l k) (hc : c ≤ l.length) (hk : k ≤ 65535) :
    Calls Try.prog 9 #[.pointer (some ⟨g, 0, none⟩), .agg #[.int .i64 x.t, .int .i64 x.d, .int .i64 x.i, .bool x.w, .int .i64 x.c]] w fun e w' => e = .returned (.tuple #[]) ∧ PF w' g c l (min (k + 1) 65535) ∧ w.grownBy w' (some g) := by
  have hgl := h.lt
  have hlen := h.len
  obtain ⟨n, hn⟩ : ∃ n, n = l.length := ⟨_, rfl⟩
  rw [← hn] at hc hlen
  have HN := Lib.hid hn
  have hd : decide ((n : Int) < (c : Int)) = false := by simp; omega
  have H : Hid (PF w g c l k) := Lib.hid h
  clear h hn
  go_enter Try.func9, Try.ntmps9
  go_wp2_with fail
  change Code.wp _ _ _ _ (w.alloc (.cells (fl5 x).toArray 34))
  have b1 : Below w.heap.size w (w.alloc (.cells (fl5 x).toArray 34)) := (Below.refl _ _).alloc (Nat.le_refl _) _
  generalize w.alloc (.cells (fl5 x).toArray 34) = wa at *
  have hta := H.out.below b1 hgl
  have c0 := hta.size
  have c1 := hta.count
  rw [show (l.length : Int) = (n : Int) by have := HN.out; omega] at c1
  go_quiet (fail)
  replace hta := hta.drewN nq
  replace b1 := bdrewN b1 nq
  clear c0 c1
  generalize wa.drewN nq = wd at *
  have c82 := hta.drops
  have f82 := hta.frozen 82
  go_wp2_with fail
  all_goals
    try simp only [Exit.inBlock, Exit.then]
    refine bodyPost_ret (results_none rfl _ _ _) rfl ?_
    first
    | exact ⟨rfl, by rw [show min (k + 1) 65535 = k + 1 by omega]; exact hta.drops_ (k + 1), gset (gof b1 _) (.inl rfl) _⟩
    | exact ⟨rfl, by rw [show min (k + 1) 65535 = 65535 by omega]; exact hta.drops_ 65535, gset (gof b1 _) (.inl rfl) _⟩

set_option maxRecDepth 100000 in
theorem ladd_room (g c : Nat) (l : List Fl) (k : Nat) (x : Fl) (w : World) (h : PF w g c l k) (hc : l.length < c) (hc16 : c ≤ 16) :
    Calls Try.prog 9 #[.pointer (some ⟨g, 0, none⟩), .agg #[.int .i64 x.t, .int .i64 x.d, .int .i64 x.i, .bool x.w, .int .i64 x.c]] w fun e w' => e = .returned (.tuple #[]) ∧ PF w' g c (l ++ [x]) k ∧ w.grownBy w' (some g) := by
  have hgl := h.lt
  have hlen : l.length ≤ 15 := by omega
  obtain ⟨n, hn⟩ : ∃ n, n = l.length := ⟨_, rfl⟩
  rw [← hn] at hc hlen
  have h16 : (n : Int) < 16 := by omega
  have HN := Lib.hid hn
  have hd : decide ((c : Int) ≤ (n : Int)) = false := by simp; omega
  have H : Hid (PF w g c l k) := Lib.hid h
  clear h hn
  go_enter Try.func9, Try.ntmps9
  go_wp2_with fail
  change Code.wp _ _ _ _ (w.alloc (.cells (fl5 x).toArray 34))
  have hv : Blk (w.alloc (.cells (fl5 x).toArray 34)) w.heap.size 34 (fl5 x) := Blk.new _ _ _
  have b1 : Below w.heap.size w (w.alloc (.cells (fl5 x).toArray 34)) := (Below.refl _ _).alloc (Nat.le_refl _) _
  generalize w.alloc (.cells (fl5 x).toArray 34) = wa at *
  have hta := H.out.below b1 hgl
  have c0 := hta.size
  have c1 := hta.count
  rw [show (l.length : Int) = (n : Int) by have := HN.out; omega] at c1
  generalize hh : w.heap.size = h at *
  have hwh : w.heap.size ≤ h := by omega
  have HH := Lib.hid hh; clear hh
  go_quiet (fail)
  replace hta := hta.drewN nq
  replace b1 := bdrewN b1 nq
  replace hv := hv.drewN nq
  clear c0 c1
  generalize wa.drewN nq = wb at *
  have c0 := hta.size
  have c1 := hta.count
  rw [show (l.length : Int) = (n : Int) by have := HN.out; omega] at c1
  have v0 := hv.cell 0
  have v1 := hv.cell 1
  have v2 := hv.cell 2
  have v3 := hv.cell 3
  have v4 := hv.cell 4
  simp only [fl5, List.getElem?_cons_zero, List.getElem?_cons_succ] at v0 v1 v2 v3 v4
  go_wp2_with fail
  have ht2 := PF.put (show PF wb.drew g c l k from hta) (by have := HN.out; omega) x
  rw [← HN.out] at ht2
  have g2 : w.grownBy ((((((wb.drew.setCell ⟨g, 2 + n * 5, none⟩ (.int .i64 x.t)).setCell ⟨g, 2 + n * 5 + 1, none⟩ (.int .i64 x.d)).setCell ⟨g, 2 + n * 5 + 2, none⟩ (.int .i64 x.i)).setCell ⟨g, 2 + n * 5 + 3, none⟩ (.bool x.w)).setCell ⟨g, 2 + n * 5 + 4, none⟩ (.int .i64 x.c)).setCell ⟨g, 1, none⟩ (.int .i64 ((n : Int) + 1))) (some g) :=
    gtrans (show w.grownBy wb.drew (some g) from gof (show Below w.heap.size w wb.drew by rw [HH.out]; exact b1.drew) _) (setCells5_grown wb.drew g _ _ _ _ _ _ rfl rfl rfl rfl rfl rfl _ _ _ _ _ _)
  have htd : PF wb.drew g c l k := hta
  clear hv b1 hta
  go_still_tail 9, (by kernel_rfl)
  change wpList _ _ _ _ _ wb.drew
  generalize wb.drew = wd at *
  obtain ⟨u0, r0⟩ := htd.room (by have := HN.out; omega) 0 (by omega)
  obtain ⟨u1, r1⟩ := htd.room (by have := HN.out; omega) 1 (by omega)
  obtain ⟨u2, r2⟩ := htd.room (by have := HN.out; omega) 2 (by omega)
  obtain ⟨u3, r3⟩ := htd.room (by have := HN.out; omega) 3 (by omega)
  obtain ⟨u4, r4⟩ := htd.room (by have := HN.out; omega) 4 (by omega)
  rw [← HN.out] at r0 r1 r2 r3 r4
  have f0 := htd.frozen (2 + n * 5)
  have f1 := htd.frozen (2 + n * 5 + 1)
  have f2 := htd.frozen (2 + n * 5 + 2)
  have f3 := htd.frozen (2 + n * 5 + 3)
  have f4 := htd.frozen (2 + n * 5 + 4)
  have f5 := htd.frozen 1
  have d1 := htd.count
  rw [show (l.length : Int) = (n : Int) by have := HN.out; omega] at d1
  simp only [Nat.add_zero] at r0
  clear htd v0 v1 v2 v3 v4 c1 c0
  go_wp2_with fail
  go_end0
  exact ⟨rfl, ht2, g2⟩

theorem zLog_list (c : Int) : zLog.toList.set 0 (.int .i64 c) = .int .i64 c :: .int .i64 ([] : List Fl).length :: (fls [] ++ zFls ++ [.int .i64 (0 : Nat)]) := by
  simp [zLog, fls_nil]
theorem zLog_size : zLog.size = 83 := by simp [zLog, zFls_len]
/-- A log made anew in its own place. -/
theorem PF.wipe {w : World} {g c k : Nat} {l : List Fl} (h : PF w g c l k) : ∃ w3, Sem.run Try.prog (storeCells ⟨g, 0, none⟩ (zLog.toList.set 0 (.int .i64 c))) w = .ok () w3 ∧ PF w3 g c [] 0 ∧ w.grownBy w3 (some g) := by
  obtain ⟨z, hz, hb⟩ := h
  have hfl := fls_len l
  have hl : (zLog.toList.set 0 (Value.int .i64 c)).length = 83 := by rw [List.length_set, Array.length_toList, zLog_size]
  have hst := run_storeCells_at Try.prog g 0 44 (zLog.toList.set 0 (.int .i64 c)) 0 _ w hb (by simp only [hl, List.size_toArray, List.length_cons, List.length_append, List.length_nil]; omega) (by
    rw [zLog_list]
    intro v hv
    simp only [List.mem_cons, List.mem_append, List.not_mem_nil, or_false, fls_nil, false_or] at hv
    rcases hv with rfl | rfl | hv | rfl
    · rfl
    · rfl
    · simp only [zFls, zFl, List.mem_flatten, List.mem_replicate] at hv
      obtain ⟨x, ⟨_, rfl⟩, hx⟩ := hv
      simp only [List.mem_cons, List.not_mem_nil, or_false] at hx
      rcases hx with rfl | rfl | rfl | rfl | rfl <;> rfl
    · rfl)
  refine ⟨_, hst, ?_, grown_setRow _ _ _⟩
  refine ⟨zFls, by rw [zFls_len]; rfl, ?_⟩
  rw [← zLog_list]
  have e : (List.take (0 + 0) (Value.int .i64 (c : Int) :: .int .i64 l.length :: (fls l ++ z ++ [.int .i64 k])).toArray.toList ++ zLog.toList.set 0 (.int .i64 c) ++ List.drop (0 + 0 + (zLog.toList.set 0 (Value.int .i64 c)).length) (Value.int .i64 (c : Int) :: .int .i64 l.length :: (fls l ++ z ++ [.int .i64 k])).toArray.toList) = zLog.toList.set 0 (.int .i64 c) := by
    rw [hl, List.drop_eq_nil_of_le (by simp only [List.length_cons, List.length_append, List.length_nil]; omega)]
    simp
  rw [e]
  exact hb.row _

theorem arrF_h (w : World) (g n : Nat) (hn : n ≤ 16) : (Instr.sliceAt 42 (.pointer (some ⟨g, 2, none⟩)) none (some (.int .i64 (n : Int))) none).run Try.prog w = .ok (.slice (some ⟨g, 2, none⟩) n 16) w := by
  have ht := Try.underlying42
  have hl : Try.prog.arrayLen 42 = 16 := by kernel_rfl
  have he : Try.prog.elem 42 = 34 := by kernel_rfl
  have hz : (Go.sizeOf 34).run Try.prog w = .ok 5 w := by
    have hi : (Try.prog.info? 34).map (fun i => i.size) = some 5 := by kernel_rfl
    cases h : Try.prog.info? 34 with
    | none => rw [h] at hi; cases hi
    | some i => rw [h] at hi; simp only [Option.map_some, Option.some.injEq] at hi; simp [Go.sizeOf, typeInfo, h, hi]
  rw [run_sliceAt_array_h w 42 ⟨g, 2, none⟩ (by rw [hl, he]; exact ht) .i64 _ (by omega) (by rw [hl]; omega), he, hz, hl]
  simp [Result.andThen, slicedAt, add_none]
theorem infoFault : (Try.prog.info? 34).map (fun i => (i.zero, i.size, i.bytes)) = some (some (.agg #[.int .i64 0, .int .i64 0, .int .i64 0, .bool false, .int .i64 0]), 5, 40) := by kernel_rfl
/-- 'append' of nothing to nil. -/
theorem run_append_none (w : World) (ty : TypeId) (A : Option Addr) (c : Nat) : (Builtin.append_ #[22, 22] ty #[.slice none 0 0, .slice A 0 c]).run Try.prog w = .ok (.slice none 0 0) w := by
  obtain ⟨i, hi, hz0, hz1, hz2⟩ := info_parts infoFault
  cases A <;> simp [Builtin.append_, run_underlying Try.underlying22, sizeOf, typeInfo, hi, Builtin.lenOf, Builtin.firstCells, loadCells, loadCellsFrom]

set_option maxRecDepth 100000 in
set_option maxHeartbeats 1000000 in
theorem ltake_one (g c n : Nat) (l : List Fl) (k : Nat) (w : World) (h : PF w g c l k) (hn : n = l.length) (h0 : 0 < n) :
    Calls Try.prog 11 #[.pointer (some ⟨g, 0, none⟩)] w fun e w' => ∃ A cap, e = .returned (.tuple #[.slice A n cap, .int .i64 k]) ∧ w'.ownsRow w.heap.size 34 5 (.slice A n cap) n (fls l) ∧ PF w' g c [] 0 ∧ w.grownBy w' (some g) := by
  have hgl := h.lt
  have hlen := h.len
  have hs := fun w => arrF_h w g n (by omega)
  have HZ := zLog_run
  have hne := zLog_ne
  obtain ⟨i0, hi, hz0, hz1, hz2⟩ := info_parts infoFault
  have HI := Lib.hid hi; have HZ0 := Lib.hid hz0; have HZ1 := Lib.hid hz1; have HZ2 := Lib.hid hz2
  have c1 := h.count
  have c82 := h.drops
  have H : Hid (PF w g c l k) := Lib.hid h
  rw [← hn] at c1 hlen
  have HN := Lib.hid hn
  clear h hn hi hz0 hz1 hz2
  go_enter Try.func11, Try.ntmps11
  go_wp2_with fail
  go_region_law ((refine step_append_lies _ (by rfl) _ _ 22 (by rfl) w.heap.size 34 i0 _ 5 40 Try.underlying22 HI.out HZ0.out HZ1.out HZ2.out (by rfl) (by decide) (.slice none 0 0) 0 [] (by rfl) (World.ownsRow_nil _ _ _ _) ⟨g, 2, none⟩ n 16 (fls l) (by rfl) (by rw [fls_len, ← HN.out]) (by intro j u hu; rw [add_none]; exact H.out.at_ j u hu) (fls_one _) (by omega) (by unfold maxLen; omega) (by omega) (by simp) w.heap.size (by simp) ?_; intro b cap2 w2 own2 gr2 hat hlt; have hp2 := (H.out.drewN 1).grown gr2 (by intro e; cases e); have d82 := hp2.drops))
  all_goals
    have c0 := hp2.size
    obtain ⟨w3, hst, hp3, gr3⟩ := hp2.wipe
    have hz83 := zLog_size
    have own3 := own2.kept gr3 (.inr (fun e => by
      have e' : b = g := by simpa [Value.ownBlock] using e
      rcases hat with hat | hat
      · cases hat
      · omega))
    have gr23 := gtrans (gof (show Below w.heap.size w w2 from (bdrewN (Below.refl _ _) 1).grown gr2 (Nat.le_refl _) (fun k hk => by cases hk)) _) gr3
    rw [Nat.zero_add, List.nil_append] at own3
    clear d82 c1 c82 hs hp2 own2 gr2 gr3
    go_wp2_with fail
    go_ret2
    exact ⟨_, _, rfl, own3, hp3, gr23⟩

set_option maxRecDepth 100000 in
set_option maxHeartbeats 1000000 in
theorem ltake_none (g c : Nat) (k : Nat) (w : World) (h : PF w g c [] k) :
    Calls Try.prog 11 #[.pointer (some ⟨g, 0, none⟩)] w fun e w' => e = .returned (.tuple #[.slice none 0 0, .int .i64 k]) ∧ PF w' g c [] 0 ∧ w.grownBy w' (some g) := by
  have hgl := h.lt
  have hs := fun w => arrF_h w g 0 (by omega)
  have hap := run_append_none
  have HZ := zLog_run
  have hne := zLog_ne
  have c1 := h.count
  have c82 := h.drops
  have H : Hid (PF w g c [] k) := Lib.hid h
  clear h
  simp only [List.length_nil] at c1
  go_enter Try.func11, Try.ntmps11
  go_wp2_with fail
  go_quiet (fail)
  have hp2 := H.out.drewN nq
  have g2 := gdrewN (grefl w (some g)) nq
  clear c1 c82
  generalize w.drewN nq = w2 at *
  have c0 := hp2.size
  obtain ⟨w3, hst, hp3, gr3⟩ := hp2.wipe
  have hz83 := zLog_size
  replace g2 := gtrans g2 gr3
  clear hp2 gr3
  go_wp2_with fail
  go_ret2
  exact ⟨rfl, hp3, g2⟩

end Go.Proofs.Ytnlifmeikbgilaa
