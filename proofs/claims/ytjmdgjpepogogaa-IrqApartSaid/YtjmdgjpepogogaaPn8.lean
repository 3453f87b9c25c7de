/-
  Contracts of the program's set: the places of a device dropped out of the row (slices.DeleteFunc).
-/
import Derived.Test.YtjmdgjpepogogaaPn7
namespace Go.Proofs.Ytjmdgjpepogogaa
open Go.RowKit Go.ChangeMaps
set_option linter.unusedVariables false
set_option maxRecDepth 100000

/-- Is place k of device d? -/
def dv (d : Int) (k : Nat) : Bool := decide (((k / 8 : Nat) : Int) = d)

theorem sl_from2 (w : World) (g o len cap k : Nat) (hk : k < cap) (hl : k ≤ len) : (Instr.slice 96 (.slice (some ⟨g, o, none⟩) len cap) (some (.int .i64 (k : Int))) none none).run Try.prog w = .ok (.slice (some ⟨g, o + k * 2, none⟩) (len - k) (cap - k)) w := by
  obtain ⟨i0, hi, _, hz1, _⟩ := info_parts infoPl
  have he : Try.prog.elem 96 = 111 := by kernel_rfl
  have hz : (Go.sizeOf 111).run Try.prog w = .ok 2 w := by simp [Go.sizeOf, typeInfo, hi, hz1]
  rw [run_slice_l w 96 (some ⟨g, o, none⟩) len cap (by rw [he]; exact Try.underlying96) .i64 _ (by omega) (by omega), he, hz]
  have : ¬ (cap = k) := by omega
  simp [Result.andThen, sliced, this, add_none]

theorem run_clear2 (w : World) (ty : TypeId) (g o n c : Nat) (cur : List Value) (t : TypeId) (h : Blk w g t cur) (hn : 0 < n) (hfit : o + n * 2 ≤ cur.length) :
    (Builtin.clear_ #[96] ty #[.slice (some ⟨g, o, none⟩) n c]).run Try.prog w = .ok (.tuple #[]) (w.setRow g (cur.take o ++ ints (List.replicate (n * 2) 0) ++ cur.drop (o + n * 2)).toArray) := by
  obtain ⟨i0, hi, hz0, _, _⟩ := info_parts infoPl
  have hst := run_storeCells_at Try.prog g o t (ints (List.replicate (n * 2) 0)) 0 cur.toArray w h (by simpa [ints_len] using hfit) (by
    intro v hv
    simp only [ints, List.map_replicate] at hv
    rw [List.eq_of_mem_replicate hv]; rfl)
  simp only [Nat.add_zero, ints_len, List.length_replicate] at hst
  have hzc : (Builtin.zeroCells (Value.agg #[.int .i64 0, .int .i64 0]).cells n).toList = ints (List.replicate (n * 2) 0) := by
    simp [Builtin.zeroCells, Value.cells, ints]
    apply List.ext_getElem
    · simp
    · intro i h1 h2
      simp only [List.getElem_map, List.getElem_range, List.getElem_replicate]
      have h4 : i % 2 < 2 := Nat.mod_lt _ (by omega)
      generalize i % 2 = q at h4
      match q, h4 with
      | 0, _ => rfl
      | 1, _ => rfl
  obtain ⟨m, rfl⟩ : ∃ m, n = m + 1 := ⟨n - 1, by omega⟩
  simp [Builtin.clear_, run_underlying Try.underlying96, zeroValue, typeInfo, hi, hz0, hzc, hst]

/-- The places from i on cleared: those ahead of it stay. -/
theorem RW.cleared {w : World} {B g cap : Nat} {L : List Nat} (i : Nat) (hi : i < L.length) (h : RW w B (.slice (some ⟨g, 0, none⟩) L.length cap) L) :
    ∃ w', (∀ ty c, (Builtin.clear_ #[96] ty #[.slice (some ⟨g, i * 2, none⟩) (L.length - i) c]).run Try.prog w = .ok (.tuple #[]) w') ∧ RW w' B (.slice (some ⟨g, 0, none⟩) i cap) (L.take i) ∧ w.grownBy w' (some g) := by
  obtain ⟨hl, ⟨e, _⟩ | ⟨g', cap', cur, e, hb, hg, hnc, hcm, hsz, ht⟩⟩ := h
  · cases e
  · simp only [Value.slice.injEq, Option.some.injEq, Addr.mk.injEq] at e
    obtain ⟨⟨rfl, _⟩, _, rfl⟩ := e
    have b0 : Blk w g 111 cur.toList := by unfold Blk; rw [hg]
    have hcl : cur.toList.length = cap * 2 := by simpa using hsz
    refine ⟨_, fun ty c => run_clear2 w ty g (i * 2) (L.length - i) c _ _ b0 (by omega) (by omega), ?_, grown_setRow _ _ _⟩
    have b1 := b0.row (cur.toList.take (i * 2) ++ ints (List.replicate ((L.length - i) * 2) 0) ++ cur.toList.drop (i * 2 + (L.length - i) * 2))
    have hti : (L.take i).length = i := by rw [List.length_take]; omega
    unfold RW
    rw [hti]
    refine ⟨by rw [pls_len, hti], .inr ⟨g, cap, _, rfl, hb, b1, by omega, hcm, by simp [ints_len]; omega, ?_⟩⟩
    have e2 : cur.toList.take (i * 2) = pls (L.take i) := by
      have h3 : (cur.toList.take (L.length * 2)).take (i * 2) = pls (L.take i) := by
        rw [ht]
        have h4 : pls L = pls (L.take i) ++ pls (L.drop i) := by rw [← pls_append, List.take_append_drop]
        rw [h4, List.take_left' (by rw [pls_len, hti])]
      rw [← h3, List.take_take]
      congr 1; omega
    rw [← e2]
    simp [List.append_assoc]
    rw [List.take_append_of_le_length (by simp; omega), List.take_take]
    simp

theorem dclr_any (a b dev : Int) (c : Nat) (w : World) (hc : w.cell? ⟨c, 0, none⟩ = some (.int .i64 dev)) (hcl : c < w.heap.size) :
    Calls Try.prog 72 #[.agg #[.int .i64 a, .int .i64 b], .pointer (some ⟨c, 0, none⟩)] w fun e w' => e = .returned (.bool (decide (a = dev))) ∧ Below w.heap.size w w' := by
  by_cases h : a = dev
  · subst h
    have hd : decide (a = a) = true := by simp
    rw [hd]
    have h1 : (a == a) = true := by simp
    clear hd
    go_enter Try.func72, Try.ntmps72
    go_wp2_with fail
    go_ret
    exact ⟨rfl, (Below.refl _ _).alloc (Nat.le_refl _) _⟩
  · have hd : decide (a = dev) = false := by simpa using h
    rw [hd]
    have h1 : (a == dev) = false := by simpa using h
    clear hd h
    go_enter Try.func72, Try.ntmps72
    go_wp2_with fail
    go_ret
    exact ⟨rfl, (Below.refl _ _).alloc (Nat.le_refl _) _⟩
theorem dclr_pl (k : Nat) (dev : Int) (c : Nat) (w : World) (kd kv : Int) (hkd : kd = ((k / 8 : Nat) : Int)) (hc : w.cell? ⟨c, 0, none⟩ = some (.int .i64 dev)) (hcl : c < w.heap.size) :
    Calls Try.prog 72 #[.agg #[.int .i64 kd, .int .i64 kv], .pointer (some ⟨c, 0, none⟩)] w fun e w' => e = .returned (.bool (dv dev k)) ∧ Below w.heap.size w w' := by
  subst hkd; exact dclr_any _ _ dev c w hc hcl

/-- The first place of the device, if there is one. -/
def Fst (d : Int) (l : List Nat) (r : Int) : Prop := (r = -1 ∧ ∀ x ∈ l, dv d x = false) ∨ ∃ k : Nat, ∃ hk : k < l.length, r = k ∧ dv d l[k] = true ∧ ∀ j (hj : j < k), dv d (l[j]'(by omega)) = false

/-- The closure's value. -/
def fC (c : Nat) : Value := .func (.func 72) #[] #[.pointer (some ⟨c, 0, none⟩)]

set_option maxHeartbeats 1000000 in
theorem difn_any (B c : Nat) (dev : Int) (v : Value) (l : List Nat) (w : World) (h : RW w B v l) (hl : l.length ≤ 1000) (hc : Blk w c 3 [.int .i64 dev]) :
    Calls Try.prog 76 #[v, fC c] w fun e w' => ∃ r, e = .returned (.int .i64 r) ∧ Fst dev l r ∧ Below w.heap.size w w' := by
  obtain ⟨A, cap, rfl, hcap⟩ := form_of h
  obtain ⟨m, hm⟩ : ∃ m, m = l.length := ⟨_, rfl⟩
  have H := Lib.hid h
  have HC := Lib.hid hc
  have hcl := hc.lt
  clear h hc
  rw [← hm] at hcap hl ⊢
  have HM := Lib.hid hm; clear hm
  unfold fC
  go_enter Try.func76, Try.ntmps76
  go_wp2_with fail
  go_loopw [8] (fun i wr => ∃ (k : Nat), k ≤ m ∧ i = .int .i64 k ∧ Hid ((∀ j (hj : j < k) (hj' : j < l.length), dv dev l[j] = false) ∧ Below w.heap.size w wr)) (fun i _ => m - (intOf i).toNat)
  case atStart => exact ⟨0, by omega, rfl, Lib.hid ⟨fun j hj => by omega, Below.refl _ _⟩⟩
  case round =>
    obtain ⟨k, hk, rfl, HR_⟩ := hrel
    by_cases hlt : k < m
    · have hkl : k < l.length := by rw [← HM.out]; exact hlt
      have hrow := own_below H.out HR_.out.2
      obtain ⟨g, cap', e, _, hgl, _, _, _, hcell⟩ := RW.slice hrow (by omega)
      simp only [Value.slice.injEq] at e
      obtain ⟨rfl, -, -⟩ := e
      obtain ⟨c0, c1⟩ := hcell k hkl
      clear hcell hrow
      have hgd := gd_lt l k hkl
      rw [hgd] at c0 c1
      generalize hx : l[k] = x at *
      have HX := Lib.hid hx; clear hx hgd
      obtain ⟨kd, hkd⟩ : ∃ kd, kd = ((x / 8 : Nat) : Int) := ⟨_, rfl⟩
      obtain ⟨kv, hkv⟩ : ∃ kv, kv = ((x % 8 : Nat) : Int) := ⟨_, rfl⟩
      rw [← hkd] at c0
      rw [← hkv] at c1
      have cD := dclr_pl x dev c wr kd kv hkd ((HC.out.below HR_.out.2 hcl).cell 0) (by have := HR_.out.2.size; omega)
      have CD := Lib.hid cD
      clear hkd hkv cD
      go_wp2_with fail
      refine CD.out.mono ?_
      rintro e w1 ⟨rfl, b1⟩
      have bel1 := Lib.hid (Below.down HR_.out.2 b1 HR_.out.2.size)
      clear c0 c1 b1
      cases hf : dv dev x with
      | true =>
        have HF := Lib.hid hf; clear hf
        go_wp2_with fail
        go_ret
        exact ⟨_, rfl, .inr ⟨k, hkl, rfl, by rw [HX.out]; exact HF.out, fun j hj => HR_.out.1 j hj (by omega)⟩, bel1.out⟩
      | false =>
        have HF := Lib.hid hf; clear hf
        go_wp2_with fail
        go_roundw
        case rel => exact ⟨k + 1, by omega, by go_num, Lib.hid ⟨fun j hj hj' => by
          by_cases e : j = k
          · subst e; rw [HX.out]; exact HF.out
          · exact HR_.out.1 j (by omega) hj', bel1.out⟩⟩
        case measure => simp [intOf]; omega
    · go_wp2_with fail
      go_ret
      exact ⟨_, rfl, .inl ⟨rfl, fun x hx => by
        obtain ⟨j, hj, rfl⟩ := List.getElem_of_mem hx
        exact HR_.out.1 j (by have := HM.out; omega) hj⟩, HR_.out.2⟩
/-- A row on the way: i places kept of the first j, those from j on as they were. -/
structure Wy (w w' : World) (B : Nat) (v : Value) (l : List Nat) (d : Int) (i j : Nat) (L : List Nat) : Prop where
  row : RW w' B v L
  len : L.length = l.length
  kept : L.take i = (l.take j).filter (fun x => !dv d x)
  rest : L.drop j = l.drop j
  gr : w.grownBy w' v.ownBlock

section
variable {w w' w1 : World} {B : Nat} {v : Value} {l L : List Nat} {d : Int} {i j : Nat}
theorem Wy.all (h : Wy w w' B v l d i j L) (hij : i < j) (hj : j = l.length) : L.take i = l.filter (fun x => !dv d x) ∧ i = (l.filter (fun x => !dv d x)).length := by
  have e := h.kept
  rw [hj, List.take_length] at e
  refine ⟨e, ?_⟩
  rw [← e, List.length_take, h.len]
  omega
theorem Wy.at_ (h : Wy w w' B v l d i j L) (hj : j < l.length) : gd L j = l[j] := by
  have hl := h.len
  have e := congrArg (fun x => x[0]?) h.rest
  simp only [List.getElem?_drop, Nat.add_zero] at e
  rw [gd_lt L j (by omega)]
  rw [List.getElem?_eq_getElem (by omega), List.getElem?_eq_getElem hj] at e
  exact Option.some.inj e
theorem Wy.skip (h : Wy w w' B v l d i j L) (hb : Below w'.heap.size w' w1) (hj : j < l.length) (hf : dv d l[j] = true) : Wy w w1 B v l d i (j + 1) L := by
  refine ⟨own_below h.row hb, h.len, ?_, ?_, gtrans h.gr (gof hb _)⟩
  · rw [h.kept, List.take_succ_eq_append_getElem hj, List.filter_append]
    simp [hf]
  · have := congrArg (List.drop 1) h.rest
    simpa [List.drop_drop] using this
theorem Wy.keep (h : Wy w w' B v l d i j L) (hij : i < j) (hj : j < l.length) (hf : dv d l[j] = false)
    (ht : RW w1 B v (L.set i l[j])) (hg : w'.grownBy w1 v.ownBlock) : Wy w w1 B v l d (i + 1) (j + 1) (L.set i l[j]) := by
  have hl := h.len
  refine ⟨ht, by rw [List.length_set, hl], ?_, ?_, gtrans h.gr hg⟩
  · rw [List.take_succ_eq_append_getElem hj, List.filter_append, ← h.kept]
    rw [List.take_succ_eq_append_getElem (by rw [List.length_set]; omega), List.getElem_set_self]
    rw [List.take_set_of_le (Nat.le_refl _)]
    simp [hf]
  · rw [List.drop_set_of_lt (by omega)]
    have := congrArg (List.drop 1) h.rest
    simpa [List.drop_drop] using this
end
theorem put_grown (w : World) (g i : Nat) (a b : Value) : w.grownBy ((w.setCell ⟨g, i * 2, none⟩ a).setCell ⟨g, i * 2 + 1, none⟩ b) (some g) := by
  have h1 := gset (grefl w (some g)) (p := ⟨g, i * 2, none⟩) (.inl rfl) a
  exact gset h1 (p := ⟨g, i * 2 + 1, none⟩) (.inl rfl) b

set_option maxHeartbeats 2000000 in
theorem ddel_any (B c : Nat) (dev : Int) (v : Value) (l : List Nat) (w : World) (h : RW w B v l) (hl : l.length ≤ 1000) (hc : Blk w c 3 [.int .i64 dev]) :
    Calls Try.prog 71 #[v, fC c] w fun e w' => ∃ u, e = .returned u ∧ RW w' B u (l.filter (fun k => !dv dev k)) ∧ (u.ownBlock = v.ownBlock) ∧ w.grownBy w' v.ownBlock := by
  have cI := difn_any B c dev v l w h hl hc
  have H := Lib.hid h
  have HC := Lib.hid hc
  have hcl := hc.lt
  obtain ⟨A, cap, rfl, hcap⟩ := form_of h
  clear h hc
  obtain ⟨m, hm⟩ : ∃ m, m = l.length := ⟨_, rfl⟩
  rw [← hm] at hcap hl
  have HM := Lib.hid hm; clear hm
  unfold fC at *
  go_enter Try.func71, Try.ntmps71
  go_wp2_with fail
  refine cI.mono ?_
  clear cI
  rintro e w1 ⟨r, rfl, hf, b1⟩
  rcases hf with ⟨rfl, hall⟩ | ⟨k, hk, rfl, hy, hb⟩
  · have hfl : l.filter (fun k => !dv dev k) = l := by
      rw [List.filter_eq_self]; intro x hx; simp [hall x hx]
    have HFL := Lib.hid hfl
    have B1 := Lib.hid b1
    clear hall hfl b1
    go_wp2_with fail
    go_ret
    exact ⟨_, rfl, by rw [HFL.out]; exact own_below H.out B1.out, rfl, gof B1.out _⟩
  · have hkm : k < m := by rw [HM.out]; exact hk
    obtain ⟨g, cap', e, _, hgl, _, _, _, _⟩ := RW.slice H.out (by omega)
    simp only [Value.slice.injEq] at e
    obtain ⟨rfl, -, rfl⟩ := e
    have hw1 : Wy w w1 B (.slice (some ⟨g, 0, none⟩) l.length cap) l dev k (k + 1) l := by
      refine ⟨own_below H.out b1, rfl, ?_, rfl, gof b1 _⟩
      rw [List.take_succ_eq_append_getElem hk, List.filter_append]
      have e1 : (l.take k).filter (fun x => !dv dev x) = l.take k := by
        rw [List.filter_eq_self]
        intro x hx
        obtain ⟨j, hj, rfl⟩ := List.getElem_of_mem hx
        simp only [List.length_take] at hj
        rw [List.getElem_take, hb j (by omega)]; rfl
      rw [e1]
      simp [hy]
    have HW1 := Lib.hid hw1; clear hw1 hb hy b1 hk
    have hcg : Hid ((some c : Option Nat) ≠ (Value.slice (some ⟨g, 0, none⟩) l.length cap).ownBlock) := Lib.hid (fun e => own_apart_blk H.out HC.out (by decide) e.symm)
    have hk1 : ((k : Int) == -1) = false := by simp
    rw [← HM.out]
    go_wp2_with fail
    go_loopw [5, 6] (fun vi vj wr => ∃ (i j : Nat) (L : List Nat), i < j ∧ j ≤ m ∧ vi = .int .i64 i ∧ vj = .int .i64 j ∧ Hid (Wy w wr B (.slice (some ⟨g, 0, none⟩) l.length cap) l dev i j L)) (fun _ j _ => m - (intOf j).toNat)
    case atStart => exact ⟨k, k + 1, l, by omega, by omega, rfl, by go_num, HW1⟩
    case round =>
      clear HW1 hk1
      obtain ⟨i, j, L, hij, hjm, rfl, rfl, HW⟩ := hrel
      have hlL : L.length = m := by rw [HW.out.len, HM.out]
      have HLL := Lib.hid hlL
      by_cases hlt : j < m
      · have hjl : j < l.length := by rw [← HM.out]; exact hlt
        have hgd := HW.out.at_ hjl
        have hrow := HW.out.row
        rw [HM.out.symm.trans HLL.out.symm] at hrow
        obtain ⟨g', cap', e, _, hgl', _, _, hfz, hcell⟩ := RW.slice hrow (by omega)
        simp only [Value.slice.injEq, Option.some.injEq, Addr.mk.injEq] at e
        obtain ⟨⟨rfl, -⟩, -, rfl⟩ := e
        obtain ⟨c0, c1⟩ := hcell j (by omega)
        obtain ⟨i0, i1⟩ := hcell i (by omega)
        have f0 := hfz (i * 2)
        have f1 := hfz (i * 2 + 1)
        rw [hgd] at c0 c1
        clear hcell hfz hrow hlL
        generalize hx : l[j] = x at *
        have HX := Lib.hid hx; clear hx hgd
        obtain ⟨kd, hkd⟩ : ∃ kd, kd = ((x / 8 : Nat) : Int) := ⟨_, rfl⟩
        obtain ⟨kv, hkv⟩ : ∃ kv, kv = ((x % 8 : Nat) : Int) := ⟨_, rfl⟩
        rw [← hkd] at c0
        rw [← hkv] at c1
        have HKD := Lib.hid hkd
        have HKV := Lib.hid hkv
        clear hkd hkv
        clear i0 i1 f0 f1
        go_wp2_with fail
        change Calls _ _ _ (wr.alloc (.cells [Value.int .i64 kd, .int .i64 kv].toArray 111)) _
        have hv : Blk (wr.alloc (.cells [Value.int .i64 kd, .int .i64 kv].toArray 111)) wr.heap.size 111 [.int .i64 kd, .int .i64 kv] := Blk.new _ _ _
        have hwv : Below wr.heap.size wr (wr.alloc (.cells [Value.int .i64 kd, .int .i64 kv].toArray 111)) := (Below.refl _ _).alloc (Nat.le_refl _) _
        have hcr := (HC.out.grown HW.out.gr hcg.out)
        have hcl' := hcr.lt
        have hcv := hcr.below hwv hcl'
        clear c0 c1
        generalize wr.alloc (.cells [Value.int .i64 kd, .int .i64 kv].toArray 111) = wv at *
        have hhs := hwv.size
        refine (dclr_pl x dev c wv kd kv HKD.out (hcv.cell 0) (by omega)).mono ?_
        rintro e w2 ⟨rfl, b2⟩
        have hv2 := hv.below b2 hv.lt
        have b2' : Below wr.heap.size wr w2 := Below.down hwv b2 hhs
        have B2 := Lib.hid b2'
        clear hv hwv b2 b2' hcr hcv
        generalize hzz : wr.heap.size = hz at *
        have HZZ := Lib.hid hzz
        clear hzz
        cases hf : dv dev x with
        | true =>
          have HF := Lib.hid hf; clear hf
          clear hv2
          have hw2 := Lib.hid (HW.out.skip (w1 := w2) (by rw [HZZ.out]; exact B2.out) hjl (by rw [HX.out]; exact HF.out))
          go_wp2_with fail
          go_roundw
          case rel => exact ⟨i, j + 1, L, by omega, by omega, rfl, by go_num, hw2⟩
          case measure => simp [intOf]; omega
        | false =>
          have HF := Lib.hid hf; clear hf
          have hrow2 := own_below HW.out.row (show Below wr.heap.size wr w2 by rw [HZZ.out]; exact B2.out)
          have hrow3 := hrow2
          rw [HM.out.symm.trans HLL.out.symm] at hrow2
          obtain ⟨g', cap', e, _, hgl2, _, _, hfz, hcell⟩ := RW.slice hrow2 (by have := HLL.out; omega)
          simp only [Value.slice.injEq, Option.some.injEq, Addr.mk.injEq] at e
          obtain ⟨⟨rfl, -⟩, -, rfl⟩ := e
          obtain ⟨i0, i1⟩ := hcell i (by have := HLL.out; omega)
          have f0 := hfz (i * 2)
          have f1 := hfz (i * 2 + 1)
          have v0 := hv2.cell 0
          have v1 := hv2.cell 1
          simp only [List.getElem?_cons_zero, List.getElem?_cons_succ] at v0 v1
          have hput := RW.put hrow3 rfl i x (by have := HLL.out; omega)
          rw [← HKD.out, ← HKV.out] at hput
          have hw3 := Lib.hid (HW.out.keep (w1 := (w2.setCell ⟨g, i * 2, none⟩ (.int .i64 kd)).setCell ⟨g, i * 2 + 1, none⟩ (.int .i64 kv)) hij hjl (by rw [HX.out]; exact HF.out) (by rw [HX.out]; exact hput) (gtrans (gof (show Below wr.heap.size wr w2 by rw [HZZ.out]; exact B2.out) _) (put_grown w2 g i _ _)))
          clear hv2 hrow2 hrow3 hfz hcell hput
          go_wp2_with fail
          go_roundw
          case rel => exact ⟨i + 1, j + 1, _, by omega, by omega, by go_num, by go_num, hw3⟩
          case measure => simp [intOf]; omega
      · have hjm' : j = l.length := by rw [← HM.out]; omega
        have hrow := HW.out.row
        rw [HM.out.symm.trans HLL.out.symm] at hrow
        obtain ⟨w3, hcl3, h3, g3⟩ := RW.cleared i (by omega) hrow
        obtain ⟨e1, e2⟩ := HW.out.all hij hjm'
        rw [e1] at h3
        have hrow' := hrow
        obtain ⟨g', cap', e, _, hgl', _, hcc, _, _⟩ := RW.slice hrow' (by omega)
        simp only [Value.slice.injEq, Option.some.injEq, Addr.mk.injEq] at e
        obtain ⟨-, -, rfl⟩ := e
        have hsl := fun w => sl_from2 w g 0 m cap i (by omega) (by omega)
        simp only [Nat.zero_add] at hsl
        rw [HLL.out] at hcl3
        have H3 := Lib.hid h3
        have G3 : Hid (w.grownBy w3 (some g)) := Lib.hid (gtrans HW.out.gr g3)
        have E2 := Lib.hid e2
        clear hjm' hrow hrow' e1 e2 g3 h3 hcc hlL
        go_wp2_with fail
        go_ret
        exact ⟨_, rfl, by have := H3.out; rw [E2.out] at this; exact (by rw [E2.out]; exact this), rfl, G3.out⟩
end Go.Proofs.Ytjmdgjpepogogaa
