/-
  What the proofs lean on: contracts of the program's functions, plain facts.
-/
import Derived.StillTailTactics
import Derived.Test.YtkaalinoiilmoaaGreatViewsW6
namespace Go.Proofs.YtkaalinoiilmoaaGreat
open Go.RowKit
set_option linter.unusedVariables false
set_option linter.unusedSimpArgs false
set_option maxRecDepth 100000
theorem vhaspart_any {w : World} {c : Cf} {vp vd vw vg : Value} (h : CfAt w vp vd vw vg c) (p : Int) :
    Calls Tryz.prog 19 #[.agg #[.int .i64 c.fr, vp, vd, .int .i64 c.mj, vw, vg, .int .i64 c.se, .int .i64 c.qu, .int .i64 c.qt], .int .i64 p] w fun e w' => e = .returned (.bool (inP c.ps.length p)) ∧ Below w.heap.size w w' := by
  obtain ⟨A, cap, rfl, _⟩ := h.ps
  obtain ⟨hb, hB⟩ := cf_box w c (.slice A c.ps.length cap) vd vw vg
  have hn : c.ps.length ≤ 9223372036854775807 := by have := h.pz.1; omega
  obtain ⟨-, k1, -⟩ := cf_at hb
  have HB := Lib.hid hB
  clear h hb hB
  generalize c.ps.length = n at *
  by_cases h0 : 0 ≤ p
  · by_cases h1 : p < (n : Int)
    · have HR := Lib.hid (show inP n p = true from decide_eq_true ⟨h0, h1⟩)
      have hd : decide (p < (n : Int)) = true := decide_eq_true h1
      clear h1
      go_enter Tryz.func19, Tryz.ntmps19
      go_wp2
      go_ret
      exact ⟨by rw [HR.out]; rfl, HB.out⟩
    · have HR := Lib.hid (show inP n p = false from decide_eq_false (fun h => h1 h.2))
      have hd : decide (p < (n : Int)) = false := decide_eq_false h1
      clear h1
      go_enter Tryz.func19, Tryz.ntmps19
      go_wp2
      go_ret
      exact ⟨by rw [HR.out]; rfl, HB.out⟩
  · have HR := Lib.hid (show inP n p = false from decide_eq_false (fun h => h0 h.1))
    have h2 : p < 0 := by omega
    clear h0
    go_enter Tryz.func19, Tryz.ntmps19
    go_wp2
    go_ret
    exact ⟨by rw [HR.out]; rfl, HB.out⟩
structure VgS (w1 : World) (c : Cf) (vp vd vw vg fv sv : Value) (z y0 y1 y2 y3 pb pa : Nat) (xf xt : Int) (xw : Bool) (t : Int) (o : Nat) (l : List Int) (w' : World) : Prop where
  zb : Blk w' z 65 [.int .i64 xf, .int .i64 xt, .bool xw]
  b0 : Blk w' y0 3 [.int .i64 t]
  b1 : Blk w' y1 109 [fv]
  b2 : Blk w' y2 27 (cfc c vp vd vw vg)
  b3 : Blk w' y3 3 [.int .i64 o]
  row : w'.cell? ⟨pb, pa + o * 5 + 2, none⟩ = some sv
  rlt : pb < w'.heap.size
  fs : Sl w' sv l.length 1 (ints l)
  below : Below w1.heap.size w1 w'
section
variable {w1 w' w2 : World} {c : Cf} {vp vd vw vg fv sv : Value} {z y0 y1 y2 y3 pb pa : Nat} {xf xt t : Int} {xw : Bool} {o : Nat} {l : List Int}
theorem VgS.next (h : VgS w1 c vp vd vw vg fv sv z y0 y1 y2 y3 pb pa xf xt xw t o l w') (hb : Below w'.heap.size w' w2) : VgS w1 c vp vd vw vg fv sv z y0 y1 y2 y3 pb pa xf xt xw t o l w2 :=
  ⟨h.zb.below hb h.zb.lt, h.b0.below hb h.b0.lt, h.b1.below hb h.b1.lt, h.b2.below hb h.b2.lt, h.b3.below hb h.b3.lt, (hb.cell (p := ⟨pb, pa + o * 5 + 2, none⟩) h.rlt).trans h.row, Nat.lt_of_lt_of_le h.rlt hb.size, h.fs.below hb, Below.down h.below hb h.below.size⟩
theorem VgS.drew (h : VgS w1 c vp vd vw vg fv sv z y0 y1 y2 y3 pb pa xf xt xw t o l w') : VgS w1 c vp vd vw vg fv sv z y0 y1 y2 y3 pb pa xf xt xw t o l w'.drew := h.next (bdrewN (Below.refl _ _) 1)
theorem VgS.all (h : VgS w1 c vp vd vw vg fv sv z y0 y1 y2 y3 pb pa xf xt xw t o l w') :
    w'.cell? ⟨z, 0, none⟩ = some (.int .i64 xf) ∧ w'.cell? ⟨z, 1, none⟩ = some (.int .i64 xt) ∧ w'.cell? ⟨z, 2, none⟩ = some (.bool xw) ∧ w'.cell? ⟨y0, 0, none⟩ = some (.int .i64 t) ∧ w'.cell? ⟨y1, 0, none⟩ = some fv ∧ w'.cell? ⟨y2, 1, none⟩ = some vp ∧ w'.cell? ⟨y3, 0, none⟩ = some (.int .i64 o) ∧ w'.cell? ⟨pb, pa + o * 5 + 2, none⟩ = some sv ∧ VgS w1 c vp vd vw vg fv sv z y0 y1 y2 y3 pb pa xf xt xw t o l w' :=
  ⟨(h.zb.cell 0).trans rfl, (h.zb.cell 1).trans rfl, (h.zb.cell 2).trans rfl, (h.b0.cell 0).trans rfl, (h.b1.cell 0).trans rfl, (h.b2.cell 1).trans rfl, (h.b3.cell 0).trans rfl, h.row, h⟩
end
theorem vcnt_r (xf xt : Int) (xw : Bool) (w : World) : Calls Tryz.prog 73 #[.agg #[.int .i64 xf, .int .i64 xt, .bool xw]] w fun e w' => e = .returned (.bool (xw || !false)) ∧ Below w.heap.size w w' := by
  have hb : Blk (w.alloc (.cells #[.int .i64 xf, .int .i64 xt, .bool xw] 65)) w.heap.size 65 [.int .i64 xf, .int .i64 xt, .bool xw] := Blk.new _ _ _
  have k2 := hb.cell 2
  simp only [List.getElem?_cons_zero, List.getElem?_cons_succ] at k2
  clear hb
  cases xw
  all_goals
    go_enter Tryz.func73, Tryz.ntmps73
    go_wp2
    go_ret
    exact ⟨rfl, (Below.refl _ _).alloc (Nat.le_refl _) _⟩
set_option maxHeartbeats 1000000 in
theorem vg1_r {w : World} {c : Cf} {vp vd vw vg : Value} (xf xt : Int) (xw : Bool) (t : Int) (o : Nat) (y0 y1 y2 y3 : Nat) (hc : CfAt w vp vd vw vg c) (ho : o < c.ps.length) (h0 : Blk w y0 3 [.int .i64 t]) (h1 : Blk w y1 109 [.func (.func 73) #[] #[]]) (h2 : Blk w y2 27 (cfc c vp vd vw vg)) (h3 : Blk w y3 3 [.int .i64 o]) :
    Calls Tryz.prog 92 #[.agg #[.int .i64 xf, .int .i64 xt, .bool xw], .pointer (some ⟨y0, 0, none⟩), .pointer (some ⟨y1, 0, none⟩), .pointer (some ⟨y2, 0, none⟩), .pointer (some ⟨y3, 0, none⟩)] w fun e w' => e = .returned (.bool (vgB c o t false ⟨xf, xt, xw⟩)) ∧ Below w.heap.size w w' := by
  obtain ⟨A, cap, pb, pa, sv, rfl, hA, hr⟩ := hc.ps.rows
  obtain ⟨rfl, hpb⟩ := hA (by omega)
  obtain ⟨⟨-, -, r2, -, -⟩, hfs⟩ := hr o ho
  generalize sv o = s9 at *
  have hps := hc.pz.1
  have hpf := hc.pz.2 o
  have hB : Below w.heap.size w (w.alloc (.cells #[.int .i64 xf, .int .i64 xt, .bool xw] 65)) := (Below.refl _ _).alloc (Nat.le_refl _) _
  have hzb : Blk (w.alloc (.cells #[.int .i64 xf, .int .i64 xt, .bool xw] 65)) w.heap.size 65 [.int .i64 xf, .int .i64 xt, .bool xw] := Blk.new _ _ _
  have hS : VgS (w.alloc (.cells #[.int .i64 xf, .int .i64 xt, .bool xw] 65)) c (.slice (some ⟨pb, pa, none⟩) c.ps.length cap) vd vw vg (.func (.func 73) #[] #[]) s9 w.heap.size y0 y1 y2 y3 pb pa xf xt xw t o (c.ps.getD o paD).fr (w.alloc (.cells #[.int .i64 xf, .int .i64 xt, .bool xw] 65)) :=
    ⟨hzb, h0.below hB h0.lt, h1.below hB h1.lt, h2.below hB h2.lt, h3.below hB h3.lt, (hB.cell (p := ⟨pb, pa + o * 5 + 2, none⟩) hpb).trans r2, Nat.lt_of_lt_of_le hpb hB.size, hfs.below hB, Below.refl _ _⟩
  obtain ⟨A2, c2, rfl, -⟩ := hfs
  have HB := Lib.hid hB; have HC := Lib.hid (vcnt_r xf xt xw)
  obtain ⟨Q, hQ⟩ : ∃ Q, vgB c o t false ⟨xf, xt, xw⟩ = Q := ⟨_, rfl⟩
  rw [hQ]
  unfold vgB at hQ
  simp only [Int.toNat_natCast] at hQ
  have HQ := Lib.hid hQ
  clear hQ hB hzb h0 h1 h2 h3 r2 hr hA hc
  generalize (c.ps.getD o paD).fr = l at *
  generalize hl : l.length = n2 at *
  have HN := Lib.hid hl
  clear hl
  generalize c.ps.length = n at *
  have hoi : (o : Int) < (n : Int) := by omega
  by_cases ht : xt = t
  · by_cases hc : (xw || !false) = true
    · have HW := Lib.hid hc
      have HQ9 := Lib.hid (show Q = memI l xf by rw [← HQ.out, hc, decide_eq_true ht]; simp)
      subst ht
      clear hc
      go_enter Tryz.func92, Tryz.ntmps92
      go_wp2_with fail
      generalize w.alloc (.cells #[.int .i64 xf, .int .i64 xt, .bool xw] 65) = w1 at *
      generalize hz : w.heap.size = z at *
      refine wp_region_held_drew (S := (fun w' => w'.cell? ⟨z, 0, none⟩ = some (.int .i64 xf) ∧ w'.cell? ⟨z, 1, none⟩ = some (.int .i64 xt) ∧ w'.cell? ⟨z, 2, none⟩ = some (.bool xw) ∧ w'.cell? ⟨y0, 0, none⟩ = some (.int .i64 xt) ∧ w'.cell? ⟨y1, 0, none⟩ = some (.func (.func 73) #[] #[]) ∧ w'.cell? ⟨y2, 1, none⟩ = some (.slice (some ⟨pb, pa, none⟩) n cap) ∧ w'.cell? ⟨y3, 0, none⟩ = some (.int .i64 (o : Int)) ∧ w'.cell? ⟨pb, pa + o * 5 + 2, none⟩ = some (.slice A2 n2 c2) ∧ VgS w1 c (.slice (some ⟨pb, pa, none⟩) n cap) vd vw vg (.func (.func 73) #[] #[]) (.slice A2 n2 c2) z y0 y1 y2 y3 pb pa xf xt xw xt o l w')) (by kernel_rfl) ?_ (fun hHeld => ?_)
      · try dsimp only
        (go_split_ands; refine VgS.all ?_; (first | with_reducible assumption | with_reducible exact VgS.drew (by assumption) | with_reducible exact VgS.next (by assumption) (by assumption)))
      refine wpAnyH_take (i := 0) (v := ?v0zC) rfl (by kernel_rfl) (by kernel_rfl) (by kernel_rfl) (fun _ _ _ h => h) (Or.inl ⟨by rfl, ?hy0zC⟩) (by assumption) ?rest0zC
      case hy0zC => intro w hSw; (try dsimp only at hSw); first | (go_simp; done) | (go_simp; with_reducible rfl)
      try simp only [Act.put, List.getElem_toArray, List.getElem_cons_succ, List.getElem_cons_zero, List.setIfInBounds_toArray, List.set_cons_zero, List.set_cons_succ]
      refine wpAnyH_take (i := 1) (v := ?v1zC) rfl (by kernel_rfl) (by kernel_rfl) (by kernel_rfl) (fun _ _ _ h => h) (Or.inl ⟨by rfl, ?hy1zC⟩) (by assumption) ?rest1zC
      case hy1zC => intro w hSw; (try dsimp only at hSw); first | (go_simp; done) | (go_simp; with_reducible rfl)
      try simp only [Act.put, List.getElem_toArray, List.getElem_cons_succ, List.getElem_cons_zero, List.setIfInBounds_toArray, List.set_cons_zero, List.set_cons_succ]
      refine wpAnyH_take (i := 2) (v := ?v2zC) rfl (by kernel_rfl) (by kernel_rfl) (by kernel_rfl) (fun _ _ _ h => h) (Or.inl ⟨by rfl, ?hy2zC⟩) (by assumption) ?rest2zC
      case hy2zC => intro w hSw; (try dsimp only at hSw); first | (go_simp; done) | (go_simp; with_reducible rfl)
      try simp only [Act.put, List.getElem_toArray, List.getElem_cons_succ, List.getElem_cons_zero, List.setIfInBounds_toArray, List.set_cons_zero, List.set_cons_succ]
      refine wpAnyH_take (i := 3) (v := ?v3zC) rfl (by kernel_rfl) (by kernel_rfl) (by kernel_rfl) (fun _ _ _ h => h) (Or.inl ⟨by rfl, ?hy3zC⟩) (by assumption) ?rest3zC
      case hy3zC => intro w hSw; (try dsimp only at hSw); first | (go_simp; done) | (go_simp; with_reducible rfl)
      try simp only [Act.put, List.getElem_toArray, List.getElem_cons_succ, List.getElem_cons_zero, List.setIfInBounds_toArray, List.set_cons_zero, List.set_cons_succ]
      refine wpAnyH_take (i := 4) (v := ?v4zC) rfl (by kernel_rfl) (by kernel_rfl) (by kernel_rfl) (fun _ _ _ h => h) (Or.inl ⟨by rfl, ?hy4zC⟩) (by assumption) ?rest4zC
      case hy4zC => intro w hSw; (try dsimp only at hSw); first | (go_simp; done) | (go_simp; with_reducible rfl)
      try simp only [Act.put, List.getElem_toArray, List.getElem_cons_succ, List.getElem_cons_zero, List.setIfInBounds_toArray, List.set_cons_zero, List.set_cons_succ]
      refine wpAnyH_take (i := 5) (v := ?v5zC) rfl (by kernel_rfl) (by kernel_rfl) (by kernel_rfl) (fun _ _ _ h => h) (Or.inl ⟨by rfl, ?hy5zC⟩) (by assumption) ?rest5zC
      case hy5zC => intro w hSw; (try dsimp only at hSw); first | (go_simp; done) | (go_simp; with_reducible rfl)
      try simp only [Act.put, List.getElem_toArray, List.getElem_cons_succ, List.getElem_cons_zero, List.setIfInBounds_toArray, List.set_cons_zero, List.set_cons_succ]
      refine wpAnyH_take (i := 6) (v := ?v6zC) rfl (by kernel_rfl) (by kernel_rfl) (by kernel_rfl) (fun _ _ _ h => h) (Or.inl ⟨by rfl, ?hy6zC⟩) (by assumption) ?rest6zC
      case hy6zC => intro w hSw; (try dsimp only at hSw); first | (go_simp; done) | (go_simp; with_reducible rfl)
      try simp only [Act.put, List.getElem_toArray, List.getElem_cons_succ, List.getElem_cons_zero, List.setIfInBounds_toArray, List.set_cons_zero, List.set_cons_succ]
      refine wpAnyH_ready (rs := [7]) (by kernel_rfl) (by simp) ?_
      refine AllReadyH.cons rfl (fun K hK => ?_) AllReadyH.nil
      go_simp
      refine (HC.out _).mono ?_
      rintro e w5 ⟨rfl, hb5⟩
      rw [HW.out]
      go_wp2_with fail
      refine hK.out _ _ ?_ (fun hHeld2 => ?_)
      · try dsimp only
        (go_split_ands; refine VgS.all ?_; (first | with_reducible assumption | with_reducible exact VgS.drew (by assumption) | with_reducible exact VgS.next (by assumption) (by assumption)))
      clear hK K hHeld
      have hHeld := hHeld2; clear hHeld2
      try simp only [Act.put, List.getElem_toArray, List.getElem_cons_succ, List.getElem_cons_zero, List.setIfInBounds_toArray, List.set_cons_zero, List.set_cons_succ]
      refine wpAnyH_take (i := 8) (v := ?v8zC) rfl (by kernel_rfl) (by kernel_rfl) (by kernel_rfl) (fun _ _ _ h => h) (Or.inl ⟨by rfl, ?hy8zC⟩) (by assumption) ?rest8zC
      case hy8zC => intro w hSw; (try dsimp only at hSw); first | (go_simp; done) | (go_simp; with_reducible rfl)
      try simp only [Act.put, List.getElem_toArray, List.getElem_cons_succ, List.getElem_cons_zero, List.setIfInBounds_toArray, List.set_cons_zero, List.set_cons_succ]
      refine wpAnyH_take (i := 9) (v := ?v9zC) rfl (by kernel_rfl) (by kernel_rfl) (by kernel_rfl) (fun _ _ _ h => h) (Or.inl ⟨by rfl, ?hy9zC⟩) (by assumption) ?rest9zC
      case hy9zC => intro w hSw; (try dsimp only at hSw); first | (go_simp; done) | (go_simp; with_reducible rfl)
      try simp only [Act.put, List.getElem_toArray, List.getElem_cons_succ, List.getElem_cons_zero, List.setIfInBounds_toArray, List.set_cons_zero, List.set_cons_succ]
      refine wpAnyH_take (i := 10) (v := ?v10zC) rfl (by kernel_rfl) (by kernel_rfl) (by kernel_rfl) (fun _ _ _ h => h) (Or.inl ⟨by rfl, ?hy10zC⟩) (by assumption) ?rest10zC
      case hy10zC => intro w hSw; (try dsimp only at hSw); first | (go_simp; done) | (go_simp; with_reducible rfl)
      try simp only [Act.put, List.getElem_toArray, List.getElem_cons_succ, List.getElem_cons_zero, List.setIfInBounds_toArray, List.set_cons_zero, List.set_cons_succ]
      refine wpAnyH_take (i := 11) (v := ?v11zC) rfl (by kernel_rfl) (by kernel_rfl) (by kernel_rfl) (fun _ _ _ h => h) (Or.inl ⟨by rfl, ?hy11zC⟩) (by assumption) ?rest11zC
      case hy11zC => intro w hSw; (try dsimp only at hSw); first | (go_simp; done) | (go_simp; with_reducible rfl)
      try simp only [Act.put, List.getElem_toArray, List.getElem_cons_succ, List.getElem_cons_zero, List.setIfInBounds_toArray, List.set_cons_zero, List.set_cons_succ]
      refine wpAnyH_take (i := 12) (v := ?v12zC) rfl (by kernel_rfl) (by kernel_rfl) (by kernel_rfl) (fun _ _ _ h => h) (Or.inl ⟨by rfl, ?hy12zC⟩) (by assumption) ?rest12zC
      case hy12zC => intro w hSw; (try dsimp only at hSw); first | (go_simp; done) | (go_simp; with_reducible rfl)
      try simp only [Act.put, List.getElem_toArray, List.getElem_cons_succ, List.getElem_cons_zero, List.setIfInBounds_toArray, List.set_cons_zero, List.set_cons_succ]
      refine wpAnyH_take (i := 13) (v := ?v13zC) rfl (by kernel_rfl) (by kernel_rfl) (by kernel_rfl) (fun _ _ _ h => h) (Or.inl ⟨by rfl, ?hy13zC⟩) (by assumption) ?rest13zC
      case hy13zC => intro w hSw; (try dsimp only at hSw); first | (go_simp; done) | (go_simp; with_reducible rfl)
      try simp only [Act.put, List.getElem_toArray, List.getElem_cons_succ, List.getElem_cons_zero, List.setIfInBounds_toArray, List.set_cons_zero, List.set_cons_succ]
      refine wpAnyH_take (i := 14) (v := ?v14zC) rfl (by kernel_rfl) (by kernel_rfl) (by kernel_rfl) (fun _ _ _ h => h) (Or.inl ⟨by rfl, ?hy14zC⟩) (by assumption) ?rest14zC
      case hy14zC => intro w hSw; (try dsimp only at hSw); first | (go_simp; done) | (go_simp; with_reducible rfl)
      try simp only [Act.put, List.getElem_toArray, List.getElem_cons_succ, List.getElem_cons_zero, List.setIfInBounds_toArray, List.set_cons_zero, List.set_cons_succ]
      refine wpAnyH_take (i := 15) (v := ?v15zC) rfl (by kernel_rfl) (by kernel_rfl) (by kernel_rfl) (fun _ _ _ h => h) (Or.inl ⟨by rfl, ?hy15zC⟩) (by assumption) ?rest15zC
      case hy15zC => intro w hSw; (try dsimp only at hSw); first | (go_simp; done) | (go_simp; with_reducible rfl)
      try simp only [Act.put, List.getElem_toArray, List.getElem_cons_succ, List.getElem_cons_zero, List.setIfInBounds_toArray, List.set_cons_zero, List.set_cons_succ]
      refine wpAnyH_take (i := 16) (v := ?v16zC) rfl (by kernel_rfl) (by kernel_rfl) (by kernel_rfl) (fun _ _ _ h => h) (Or.inl ⟨by rfl, ?hy16zC⟩) (by assumption) ?rest16zC
      case hy16zC => intro w hSw; (try dsimp only at hSw); first | (go_simp; done) | (go_simp; with_reducible rfl)
      try simp only [Act.put, List.getElem_toArray, List.getElem_cons_succ, List.getElem_cons_zero, List.setIfInBounds_toArray, List.set_cons_zero, List.set_cons_succ]
      refine wpAnyH_take (i := 17) (v := ?v17zC) rfl (by kernel_rfl) (by kernel_rfl) (by kernel_rfl) (fun _ _ _ h => h) (Or.inl ⟨by rfl, ?hy17zC⟩) (by assumption) ?rest17zC
      case hy17zC => intro w hSw; (try dsimp only at hSw); first | (go_simp; done) | (go_simp; with_reducible rfl)
      try simp only [Act.put, List.getElem_toArray, List.getElem_cons_succ, List.getElem_cons_zero, List.setIfInBounds_toArray, List.set_cons_zero, List.set_cons_succ]
      refine wpAnyH_ready (rs := [18]) (by kernel_rfl) (by simp) ?_
      refine AllReadyH.cons rfl (fun K hK => ?_) AllReadyH.nil
      go_simp
      refine (contains_any _ l xf _ hHeld.2.2.2.2.2.2.2.2.fs (by rw [HN.out]; unfold maxLen; omega)).mono ?_
      rintro e w6 ⟨rfl, rfl⟩
      go_wp2_with fail
      refine hK.out _ _ ?_ (fun hHeld2 => ?_)
      · try dsimp only
        (go_split_ands; refine VgS.all ?_; (first | with_reducible assumption | with_reducible exact VgS.drew (by assumption) | with_reducible exact VgS.next (by assumption) (by assumption)))
      clear hK K hHeld
      have hHeld := hHeld2; clear hHeld2
      try simp only [Act.put, List.getElem_toArray, List.getElem_cons_succ, List.getElem_cons_zero, List.setIfInBounds_toArray, List.set_cons_zero, List.set_cons_succ]
      refine wpAnyH_take (i := 19) (v := ?v19zC) rfl (by kernel_rfl) (by kernel_rfl) (by kernel_rfl) (fun _ _ _ h => h) (Or.inl ⟨by rfl, ?hy19zC⟩) (by assumption) ?rest19zC
      case hy19zC => intro w hSw; (try dsimp only at hSw); first | (go_simp; done) | (go_simp; with_reducible rfl)
      try simp only [Act.put, List.getElem_toArray, List.getElem_cons_succ, List.getElem_cons_zero, List.setIfInBounds_toArray, List.set_cons_zero, List.set_cons_succ]
      refine wpAnyH_take (i := 20) (v := ?v20zC) rfl (by kernel_rfl) (by kernel_rfl) (by kernel_rfl) (fun _ _ _ h => h) (Or.inl ⟨by rfl, ?hy20zC⟩) (by assumption) ?rest20zC
      case hy20zC => intro w hSw; (try dsimp only at hSw); first | (go_simp; done) | (go_simp; with_reducible rfl)
      try simp only [Act.put, List.getElem_toArray, List.getElem_cons_succ, List.getElem_cons_zero, List.setIfInBounds_toArray, List.set_cons_zero, List.set_cons_succ]
      refine wpAnyH_done (by kernel_rfl) ?_ _
      all_goals
        have HS9 := Lib.hid hHeld.2.2.2.2.2.2.2.2.below
        clear hHeld
        go_wp2_with fail
        go_ret
        exact ⟨by rw [HQ9.out]; rfl, by rw [hz]; exact Below.down HB.out HS9.out (by have := HB.out.size; omega)⟩
    · have HW := Lib.hid (show (xw || !false) = false from Bool.eq_false_iff.2 hc)
      have HQ9 := Lib.hid (show Q = false by rw [← HQ.out, HW.out]; simp)
      subst ht
      clear hc
      go_enter Tryz.func92, Tryz.ntmps92
      go_wp2_with fail
      generalize w.alloc (.cells #[.int .i64 xf, .int .i64 xt, .bool xw] 65) = w1 at *
      generalize hz : w.heap.size = z at *
      refine wp_region_held_drew (S := (fun w' => w'.cell? ⟨z, 0, none⟩ = some (.int .i64 xf) ∧ w'.cell? ⟨z, 1, none⟩ = some (.int .i64 xt) ∧ w'.cell? ⟨z, 2, none⟩ = some (.bool xw) ∧ w'.cell? ⟨y0, 0, none⟩ = some (.int .i64 xt) ∧ w'.cell? ⟨y1, 0, none⟩ = some (.func (.func 73) #[] #[]) ∧ w'.cell? ⟨y2, 1, none⟩ = some (.slice (some ⟨pb, pa, none⟩) n cap) ∧ w'.cell? ⟨y3, 0, none⟩ = some (.int .i64 (o : Int)) ∧ w'.cell? ⟨pb, pa + o * 5 + 2, none⟩ = some (.slice A2 n2 c2) ∧ VgS w1 c (.slice (some ⟨pb, pa, none⟩) n cap) vd vw vg (.func (.func 73) #[] #[]) (.slice A2 n2 c2) z y0 y1 y2 y3 pb pa xf xt xw xt o l w')) (by kernel_rfl) ?_ (fun hHeld => ?_)
      · try dsimp only
        (go_split_ands; refine VgS.all ?_; (first | with_reducible assumption | with_reducible exact VgS.drew (by assumption) | with_reducible exact VgS.next (by assumption) (by assumption)))
      refine wpAnyH_take (i := 0) (v := ?v0zB) rfl (by kernel_rfl) (by kernel_rfl) (by kernel_rfl) (fun _ _ _ h => h) (Or.inl ⟨by rfl, ?hy0zB⟩) (by assumption) ?rest0zB
      case hy0zB => intro w hSw; (try dsimp only at hSw); first | (go_simp; done) | (go_simp; with_reducible rfl)
      try simp only [Act.put, List.getElem_toArray, List.getElem_cons_succ, List.getElem_cons_zero, List.setIfInBounds_toArray, List.set_cons_zero, List.set_cons_succ]
      refine wpAnyH_take (i := 1) (v := ?v1zB) rfl (by kernel_rfl) (by kernel_rfl) (by kernel_rfl) (fun _ _ _ h => h) (Or.inl ⟨by rfl, ?hy1zB⟩) (by assumption) ?rest1zB
      case hy1zB => intro w hSw; (try dsimp only at hSw); first | (go_simp; done) | (go_simp; with_reducible rfl)
      try simp only [Act.put, List.getElem_toArray, List.getElem_cons_succ, List.getElem_cons_zero, List.setIfInBounds_toArray, List.set_cons_zero, List.set_cons_succ]
      refine wpAnyH_take (i := 2) (v := ?v2zB) rfl (by kernel_rfl) (by kernel_rfl) (by kernel_rfl) (fun _ _ _ h => h) (Or.inl ⟨by rfl, ?hy2zB⟩) (by assumption) ?rest2zB
      case hy2zB => intro w hSw; (try dsimp only at hSw); first | (go_simp; done) | (go_simp; with_reducible rfl)
      try simp only [Act.put, List.getElem_toArray, List.getElem_cons_succ, List.getElem_cons_zero, List.setIfInBounds_toArray, List.set_cons_zero, List.set_cons_succ]
      refine wpAnyH_take (i := 3) (v := ?v3zB) rfl (by kernel_rfl) (by kernel_rfl) (by kernel_rfl) (fun _ _ _ h => h) (Or.inl ⟨by rfl, ?hy3zB⟩) (by assumption) ?rest3zB
      case hy3zB => intro w hSw; (try dsimp only at hSw); first | (go_simp; done) | (go_simp; with_reducible rfl)
      try simp only [Act.put, List.getElem_toArray, List.getElem_cons_succ, List.getElem_cons_zero, List.setIfInBounds_toArray, List.set_cons_zero, List.set_cons_succ]
      refine wpAnyH_take (i := 4) (v := ?v4zB) rfl (by kernel_rfl) (by kernel_rfl) (by kernel_rfl) (fun _ _ _ h => h) (Or.inl ⟨by rfl, ?hy4zB⟩) (by assumption) ?rest4zB
      case hy4zB => intro w hSw; (try dsimp only at hSw); first | (go_simp; done) | (go_simp; with_reducible rfl)
      try simp only [Act.put, List.getElem_toArray, List.getElem_cons_succ, List.getElem_cons_zero, List.setIfInBounds_toArray, List.set_cons_zero, List.set_cons_succ]
      refine wpAnyH_take (i := 5) (v := ?v5zB) rfl (by kernel_rfl) (by kernel_rfl) (by kernel_rfl) (fun _ _ _ h => h) (Or.inl ⟨by rfl, ?hy5zB⟩) (by assumption) ?rest5zB
      case hy5zB => intro w hSw; (try dsimp only at hSw); first | (go_simp; done) | (go_simp; with_reducible rfl)
      try simp only [Act.put, List.getElem_toArray, List.getElem_cons_succ, List.getElem_cons_zero, List.setIfInBounds_toArray, List.set_cons_zero, List.set_cons_succ]
      refine wpAnyH_take (i := 6) (v := ?v6zB) rfl (by kernel_rfl) (by kernel_rfl) (by kernel_rfl) (fun _ _ _ h => h) (Or.inl ⟨by rfl, ?hy6zB⟩) (by assumption) ?rest6zB
      case hy6zB => intro w hSw; (try dsimp only at hSw); first | (go_simp; done) | (go_simp; with_reducible rfl)
      try simp only [Act.put, List.getElem_toArray, List.getElem_cons_succ, List.getElem_cons_zero, List.setIfInBounds_toArray, List.set_cons_zero, List.set_cons_succ]
      refine wpAnyH_ready (rs := [7]) (by kernel_rfl) (by simp) ?_
      refine AllReadyH.cons rfl (fun K hK => ?_) AllReadyH.nil
      go_simp
      refine (HC.out _).mono ?_
      rintro e w5 ⟨rfl, hb5⟩
      rw [HW.out]
      go_wp2_with fail
      refine hK.out _ _ ?_ (fun hHeld2 => ?_)
      · try dsimp only
        (go_split_ands; refine VgS.all ?_; (first | with_reducible assumption | with_reducible exact VgS.drew (by assumption) | with_reducible exact VgS.next (by assumption) (by assumption)))
      clear hK K hHeld
      have hHeld := hHeld2; clear hHeld2
      try simp only [Act.put, List.getElem_toArray, List.getElem_cons_succ, List.getElem_cons_zero, List.setIfInBounds_toArray, List.set_cons_zero, List.set_cons_succ]
      refine wpAnyH_take (i := 8) (v := ?v8zB) rfl (by kernel_rfl) (by kernel_rfl) (by kernel_rfl) (fun _ _ _ h => h) (Or.inl ⟨by rfl, ?hy8zB⟩) (by assumption) ?rest8zB
      case hy8zB => intro w hSw; (try dsimp only at hSw); first | (go_simp; done) | (go_simp; with_reducible rfl)
      try simp only [Act.put, List.getElem_toArray, List.getElem_cons_succ, List.getElem_cons_zero, List.setIfInBounds_toArray, List.set_cons_zero, List.set_cons_succ]
      refine wpAnyH_take (i := 9) (v := ?v9zB) rfl (by kernel_rfl) (by kernel_rfl) (by kernel_rfl) (fun _ _ _ h => h) (Or.inl ⟨by rfl, ?hy9zB⟩) (by assumption) ?rest9zB
      case hy9zB => intro w hSw; (try dsimp only at hSw); first | (go_simp; done) | (go_simp; with_reducible rfl)
      try simp only [Act.put, List.getElem_toArray, List.getElem_cons_succ, List.getElem_cons_zero, List.setIfInBounds_toArray, List.set_cons_zero, List.set_cons_succ]
      refine wpAnyH_take (i := 10) (v := undef) rfl (by kernel_rfl) (by kernel_rfl) (by kernel_rfl) (fun _ _ _ h => h) (Or.inr ⟨by rfl, rfl⟩) (by assumption) ?rest10zB
      try simp only [Act.put, List.getElem_toArray, List.getElem_cons_succ, List.getElem_cons_zero, List.setIfInBounds_toArray, List.set_cons_zero, List.set_cons_succ]
      refine wpAnyH_take (i := 11) (v := undef) rfl (by kernel_rfl) (by kernel_rfl) (by kernel_rfl) (fun _ _ _ h => h) (Or.inr ⟨by rfl, rfl⟩) (by assumption) ?rest11zB
      try simp only [Act.put, List.getElem_toArray, List.getElem_cons_succ, List.getElem_cons_zero, List.setIfInBounds_toArray, List.set_cons_zero, List.set_cons_succ]
      refine wpAnyH_take (i := 12) (v := undef) rfl (by kernel_rfl) (by kernel_rfl) (by kernel_rfl) (fun _ _ _ h => h) (Or.inr ⟨by rfl, rfl⟩) (by assumption) ?rest12zB
      try simp only [Act.put, List.getElem_toArray, List.getElem_cons_succ, List.getElem_cons_zero, List.setIfInBounds_toArray, List.set_cons_zero, List.set_cons_succ]
      refine wpAnyH_take (i := 13) (v := undef) rfl (by kernel_rfl) (by kernel_rfl) (by kernel_rfl) (fun _ _ _ h => h) (Or.inr ⟨by rfl, rfl⟩) (by assumption) ?rest13zB
      try simp only [Act.put, List.getElem_toArray, List.getElem_cons_succ, List.getElem_cons_zero, List.setIfInBounds_toArray, List.set_cons_zero, List.set_cons_succ]
      refine wpAnyH_take (i := 14) (v := undef) rfl (by kernel_rfl) (by kernel_rfl) (by kernel_rfl) (fun _ _ _ h => h) (Or.inr ⟨by rfl, rfl⟩) (by assumption) ?rest14zB
      try simp only [Act.put, List.getElem_toArray, List.getElem_cons_succ, List.getElem_cons_zero, List.setIfInBounds_toArray, List.set_cons_zero, List.set_cons_succ]
      refine wpAnyH_take (i := 15) (v := undef) rfl (by kernel_rfl) (by kernel_rfl) (by kernel_rfl) (fun _ _ _ h => h) (Or.inr ⟨by rfl, rfl⟩) (by assumption) ?rest15zB
      try simp only [Act.put, List.getElem_toArray, List.getElem_cons_succ, List.getElem_cons_zero, List.setIfInBounds_toArray, List.set_cons_zero, List.set_cons_succ]
      refine wpAnyH_take (i := 16) (v := undef) rfl (by kernel_rfl) (by kernel_rfl) (by kernel_rfl) (fun _ _ _ h => h) (Or.inr ⟨by rfl, rfl⟩) (by assumption) ?rest16zB
      try simp only [Act.put, List.getElem_toArray, List.getElem_cons_succ, List.getElem_cons_zero, List.setIfInBounds_toArray, List.set_cons_zero, List.set_cons_succ]
      refine wpAnyH_take (i := 17) (v := undef) rfl (by kernel_rfl) (by kernel_rfl) (by kernel_rfl) (fun _ _ _ h => h) (Or.inr ⟨by rfl, rfl⟩) (by assumption) ?rest17zB
      try simp only [Act.put, List.getElem_toArray, List.getElem_cons_succ, List.getElem_cons_zero, List.setIfInBounds_toArray, List.set_cons_zero, List.set_cons_succ]
      refine wpAnyH_take (i := 18) (v := undef) rfl (by kernel_rfl) (by kernel_rfl) (by kernel_rfl) (fun _ _ _ h => h) (Or.inr ⟨by rfl, rfl⟩) (by assumption) ?rest18zB
      try simp only [Act.put, List.getElem_toArray, List.getElem_cons_succ, List.getElem_cons_zero, List.setIfInBounds_toArray, List.set_cons_zero, List.set_cons_succ]
      refine wpAnyH_take (i := 19) (v := ?v19zB) rfl (by kernel_rfl) (by kernel_rfl) (by kernel_rfl) (fun _ _ _ h => h) (Or.inl ⟨by rfl, ?hy19zB⟩) (by assumption) ?rest19zB
      case hy19zB => intro w hSw; (try dsimp only at hSw); first | (go_simp; done) | (go_simp; with_reducible rfl)
      try simp only [Act.put, List.getElem_toArray, List.getElem_cons_succ, List.getElem_cons_zero, List.setIfInBounds_toArray, List.set_cons_zero, List.set_cons_succ]
      refine wpAnyH_take (i := 20) (v := ?v20zB) rfl (by kernel_rfl) (by kernel_rfl) (by kernel_rfl) (fun _ _ _ h => h) (Or.inl ⟨by rfl, ?hy20zB⟩) (by assumption) ?rest20zB
      case hy20zB => intro w hSw; (try dsimp only at hSw); first | (go_simp; done) | (go_simp; with_reducible rfl)
      try simp only [Act.put, List.getElem_toArray, List.getElem_cons_succ, List.getElem_cons_zero, List.setIfInBounds_toArray, List.set_cons_zero, List.set_cons_succ]
      refine wpAnyH_done (by kernel_rfl) ?_ _
      all_goals
        have HS9 := Lib.hid hHeld.2.2.2.2.2.2.2.2.below
        clear hHeld
        go_wp2_with fail
        go_ret
        exact ⟨by rw [HQ9.out]; rfl, by rw [hz]; exact Below.down HB.out HS9.out (by have := HB.out.size; omega)⟩
  · have hne : (xt == t) = false := by simpa using ht
    have HQ9 := Lib.hid (show Q = false by rw [← HQ.out, decide_eq_false ht]; rfl)
    clear ht
    go_enter Tryz.func92, Tryz.ntmps92
    go_wp2_with fail
    generalize w.alloc (.cells #[.int .i64 xf, .int .i64 xt, .bool xw] 65) = w1 at *
    generalize hz : w.heap.size = z at *
    refine wp_region_held_drew (S := (fun w' => w'.cell? ⟨z, 0, none⟩ = some (.int .i64 xf) ∧ w'.cell? ⟨z, 1, none⟩ = some (.int .i64 xt) ∧ w'.cell? ⟨z, 2, none⟩ = some (.bool xw) ∧ w'.cell? ⟨y0, 0, none⟩ = some (.int .i64 t) ∧ w'.cell? ⟨y1, 0, none⟩ = some (.func (.func 73) #[] #[]) ∧ w'.cell? ⟨y2, 1, none⟩ = some (.slice (some ⟨pb, pa, none⟩) n cap) ∧ w'.cell? ⟨y3, 0, none⟩ = some (.int .i64 (o : Int)) ∧ w'.cell? ⟨pb, pa + o * 5 + 2, none⟩ = some (.slice A2 n2 c2) ∧ VgS w1 c (.slice (some ⟨pb, pa, none⟩) n cap) vd vw vg (.func (.func 73) #[] #[]) (.slice A2 n2 c2) z y0 y1 y2 y3 pb pa xf xt xw t o l w')) (by kernel_rfl) ?_ (fun hHeld => ?_)
    · try dsimp only
      (go_split_ands; refine VgS.all ?_; (first | with_reducible assumption | with_reducible exact VgS.drew (by assumption) | with_reducible exact VgS.next (by assumption) (by assumption)))
    refine wpAnyH_take (i := 0) (v := ?v0zA) rfl (by kernel_rfl) (by kernel_rfl) (by kernel_rfl) (fun _ _ _ h => h) (Or.inl ⟨by rfl, ?hy0zA⟩) (by assumption) ?rest0zA
    case hy0zA => intro w hSw; (try dsimp only at hSw); first | (go_simp; done) | (go_simp; with_reducible rfl)
    try simp only [Act.put, List.getElem_toArray, List.getElem_cons_succ, List.getElem_cons_zero, List.setIfInBounds_toArray, List.set_cons_zero, List.set_cons_succ]
    refine wpAnyH_take (i := 1) (v := ?v1zA) rfl (by kernel_rfl) (by kernel_rfl) (by kernel_rfl) (fun _ _ _ h => h) (Or.inl ⟨by rfl, ?hy1zA⟩) (by assumption) ?rest1zA
    case hy1zA => intro w hSw; (try dsimp only at hSw); first | (go_simp; done) | (go_simp; with_reducible rfl)
    try simp only [Act.put, List.getElem_toArray, List.getElem_cons_succ, List.getElem_cons_zero, List.setIfInBounds_toArray, List.set_cons_zero, List.set_cons_succ]
    refine wpAnyH_take (i := 2) (v := ?v2zA) rfl (by kernel_rfl) (by kernel_rfl) (by kernel_rfl) (fun _ _ _ h => h) (Or.inl ⟨by rfl, ?hy2zA⟩) (by assumption) ?rest2zA
    case hy2zA => intro w hSw; (try dsimp only at hSw); first | (go_simp; done) | (go_simp; with_reducible rfl)
    try simp only [Act.put, List.getElem_toArray, List.getElem_cons_succ, List.getElem_cons_zero, List.setIfInBounds_toArray, List.set_cons_zero, List.set_cons_succ]
    refine wpAnyH_take (i := 3) (v := ?v3zA) rfl (by kernel_rfl) (by kernel_rfl) (by kernel_rfl) (fun _ _ _ h => h) (Or.inl ⟨by rfl, ?hy3zA⟩) (by assumption) ?rest3zA
    case hy3zA => intro w hSw; (try dsimp only at hSw); first | (go_simp; done) | (go_simp; with_reducible rfl)
    try simp only [Act.put, List.getElem_toArray, List.getElem_cons_succ, List.getElem_cons_zero, List.setIfInBounds_toArray, List.set_cons_zero, List.set_cons_succ]
    refine wpAnyH_take (i := 4) (v := ?v4zA) rfl (by kernel_rfl) (by kernel_rfl) (by kernel_rfl) (fun _ _ _ h => h) (Or.inl ⟨by rfl, ?hy4zA⟩) (by assumption) ?rest4zA
    case hy4zA => intro w hSw; (try dsimp only at hSw); first | (go_simp; done) | (go_simp; with_reducible rfl)
    try simp only [Act.put, List.getElem_toArray, List.getElem_cons_succ, List.getElem_cons_zero, List.setIfInBounds_toArray, List.set_cons_zero, List.set_cons_succ]
    refine wpAnyH_take (i := 5) (v := undef) rfl (by kernel_rfl) (by kernel_rfl) (by kernel_rfl) (fun _ _ _ h => h) (Or.inr ⟨by rfl, rfl⟩) (by assumption) ?rest5zA
    try simp only [Act.put, List.getElem_toArray, List.getElem_cons_succ, List.getElem_cons_zero, List.setIfInBounds_toArray, List.set_cons_zero, List.set_cons_succ]
    refine wpAnyH_take (i := 6) (v := undef) rfl (by kernel_rfl) (by kernel_rfl) (by kernel_rfl) (fun _ _ _ h => h) (Or.inr ⟨by rfl, rfl⟩) (by assumption) ?rest6zA
    try simp only [Act.put, List.getElem_toArray, List.getElem_cons_succ, List.getElem_cons_zero, List.setIfInBounds_toArray, List.set_cons_zero, List.set_cons_succ]
    refine wpAnyH_take (i := 7) (v := undef) rfl (by kernel_rfl) (by kernel_rfl) (by kernel_rfl) (fun _ _ _ h => h) (Or.inr ⟨by rfl, rfl⟩) (by assumption) ?rest7zA
    try simp only [Act.put, List.getElem_toArray, List.getElem_cons_succ, List.getElem_cons_zero, List.setIfInBounds_toArray, List.set_cons_zero, List.set_cons_succ]
    refine wpAnyH_take (i := 8) (v := ?v8zA) rfl (by kernel_rfl) (by kernel_rfl) (by kernel_rfl) (fun _ _ _ h => h) (Or.inl ⟨by rfl, ?hy8zA⟩) (by assumption) ?rest8zA
    case hy8zA => intro w hSw; (try dsimp only at hSw); first | (go_simp; done) | (go_simp; with_reducible rfl)
    try simp only [Act.put, List.getElem_toArray, List.getElem_cons_succ, List.getElem_cons_zero, List.setIfInBounds_toArray, List.set_cons_zero, List.set_cons_succ]
    refine wpAnyH_take (i := 9) (v := ?v9zA) rfl (by kernel_rfl) (by kernel_rfl) (by kernel_rfl) (fun _ _ _ h => h) (Or.inl ⟨by rfl, ?hy9zA⟩) (by assumption) ?rest9zA
    case hy9zA => intro w hSw; (try dsimp only at hSw); first | (go_simp; done) | (go_simp; with_reducible rfl)
    try simp only [Act.put, List.getElem_toArray, List.getElem_cons_succ, List.getElem_cons_zero, List.setIfInBounds_toArray, List.set_cons_zero, List.set_cons_succ]
    refine wpAnyH_take (i := 10) (v := undef) rfl (by kernel_rfl) (by kernel_rfl) (by kernel_rfl) (fun _ _ _ h => h) (Or.inr ⟨by rfl, rfl⟩) (by assumption) ?rest10zA
    try simp only [Act.put, List.getElem_toArray, List.getElem_cons_succ, List.getElem_cons_zero, List.setIfInBounds_toArray, List.set_cons_zero, List.set_cons_succ]
    refine wpAnyH_take (i := 11) (v := undef) rfl (by kernel_rfl) (by kernel_rfl) (by kernel_rfl) (fun _ _ _ h => h) (Or.inr ⟨by rfl, rfl⟩) (by assumption) ?rest11zA
    try simp only [Act.put, List.getElem_toArray, List.getElem_cons_succ, List.getElem_cons_zero, List.setIfInBounds_toArray, List.set_cons_zero, List.set_cons_succ]
    refine wpAnyH_take (i := 12) (v := undef) rfl (by kernel_rfl) (by kernel_rfl) (by kernel_rfl) (fun _ _ _ h => h) (Or.inr ⟨by rfl, rfl⟩) (by assumption) ?rest12zA
    try simp only [Act.put, List.getElem_toArray, List.getElem_cons_succ, List.getElem_cons_zero, List.setIfInBounds_toArray, List.set_cons_zero, List.set_cons_succ]
    refine wpAnyH_take (i := 13) (v := undef) rfl (by kernel_rfl) (by kernel_rfl) (by kernel_rfl) (fun _ _ _ h => h) (Or.inr ⟨by rfl, rfl⟩) (by assumption) ?rest13zA
    try simp only [Act.put, List.getElem_toArray, List.getElem_cons_succ, List.getElem_cons_zero, List.setIfInBounds_toArray, List.set_cons_zero, List.set_cons_succ]
    refine wpAnyH_take (i := 14) (v := undef) rfl (by kernel_rfl) (by kernel_rfl) (by kernel_rfl) (fun _ _ _ h => h) (Or.inr ⟨by rfl, rfl⟩) (by assumption) ?rest14zA
    try simp only [Act.put, List.getElem_toArray, List.getElem_cons_succ, List.getElem_cons_zero, List.setIfInBounds_toArray, List.set_cons_zero, List.set_cons_succ]
    refine wpAnyH_take (i := 15) (v := undef) rfl (by kernel_rfl) (by kernel_rfl) (by kernel_rfl) (fun _ _ _ h => h) (Or.inr ⟨by rfl, rfl⟩) (by assumption) ?rest15zA
    try simp only [Act.put, List.getElem_toArray, List.getElem_cons_succ, List.getElem_cons_zero, List.setIfInBounds_toArray, List.set_cons_zero, List.set_cons_succ]
    refine wpAnyH_take (i := 16) (v := undef) rfl (by kernel_rfl) (by kernel_rfl) (by kernel_rfl) (fun _ _ _ h => h) (Or.inr ⟨by rfl, rfl⟩) (by assumption) ?rest16zA
    try simp only [Act.put, List.getElem_toArray, List.getElem_cons_succ, List.getElem_cons_zero, List.setIfInBounds_toArray, List.set_cons_zero, List.set_cons_succ]
    refine wpAnyH_take (i := 17) (v := undef) rfl (by kernel_rfl) (by kernel_rfl) (by kernel_rfl) (fun _ _ _ h => h) (Or.inr ⟨by rfl, rfl⟩) (by assumption) ?rest17zA
    try simp only [Act.put, List.getElem_toArray, List.getElem_cons_succ, List.getElem_cons_zero, List.setIfInBounds_toArray, List.set_cons_zero, List.set_cons_succ]
    refine wpAnyH_take (i := 18) (v := undef) rfl (by kernel_rfl) (by kernel_rfl) (by kernel_rfl) (fun _ _ _ h => h) (Or.inr ⟨by rfl, rfl⟩) (by assumption) ?rest18zA
    try simp only [Act.put, List.getElem_toArray, List.getElem_cons_succ, List.getElem_cons_zero, List.setIfInBounds_toArray, List.set_cons_zero, List.set_cons_succ]
    refine wpAnyH_take (i := 19) (v := ?v19zA) rfl (by kernel_rfl) (by kernel_rfl) (by kernel_rfl) (fun _ _ _ h => h) (Or.inl ⟨by rfl, ?hy19zA⟩) (by assumption) ?rest19zA
    case hy19zA => intro w hSw; (try dsimp only at hSw); first | (go_simp; done) | (go_simp; with_reducible rfl)
    try simp only [Act.put, List.getElem_toArray, List.getElem_cons_succ, List.getElem_cons_zero, List.setIfInBounds_toArray, List.set_cons_zero, List.set_cons_succ]
    refine wpAnyH_take (i := 20) (v := ?v20zA) rfl (by kernel_rfl) (by kernel_rfl) (by kernel_rfl) (fun _ _ _ h => h) (Or.inl ⟨by rfl, ?hy20zA⟩) (by assumption) ?rest20zA
    case hy20zA => intro w hSw; (try dsimp only at hSw); first | (go_simp; done) | (go_simp; with_reducible rfl)
    try simp only [Act.put, List.getElem_toArray, List.getElem_cons_succ, List.getElem_cons_zero, List.setIfInBounds_toArray, List.set_cons_zero, List.set_cons_succ]
    refine wpAnyH_done (by kernel_rfl) ?_ _
    all_goals
      have HS9 := Lib.hid hHeld.2.2.2.2.2.2.2.2.below
      clear hHeld
      go_wp2_with fail
      go_ret
      exact ⟨by rw [HQ9.out]; rfl, by rw [hz]; exact Below.down HB.out HS9.out (by have := HB.out.size; omega)⟩
theorem vcnt_w (xf xt : Int) (xw : Bool) (w : World) : Calls Tryz.prog 74 #[.agg #[.int .i64 xf, .int .i64 xt, .bool xw]] w fun e w' => e = .returned (.bool (xw || !true)) ∧ Below w.heap.size w w' := by
  have hb : Blk (w.alloc (.cells #[.int .i64 xf, .int .i64 xt, .bool xw] 65)) w.heap.size 65 [.int .i64 xf, .int .i64 xt, .bool xw] := Blk.new _ _ _
  have k2 := hb.cell 2
  simp only [List.getElem?_cons_zero, List.getElem?_cons_succ] at k2
  clear hb
  cases xw
  all_goals
    go_enter Tryz.func74, Tryz.ntmps74
    go_wp2
    go_ret
    exact ⟨rfl, (Below.refl _ _).alloc (Nat.le_refl _) _⟩
set_option maxHeartbeats 1000000 in
theorem vg1_w {w : World} {c : Cf} {vp vd vw vg : Value} (xf xt : Int) (xw : Bool) (t : Int) (o : Nat) (y0 y1 y2 y3 : Nat) (hc : CfAt w vp vd vw vg c) (ho : o < c.ps.length) (h0 : Blk w y0 3 [.int .i64 t]) (h1 : Blk w y1 109 [.func (.func 74) #[] #[]]) (h2 : Blk w y2 27 (cfc c vp vd vw vg)) (h3 : Blk w y3 3 [.int .i64 o]) :
    Calls Tryz.prog 92 #[.agg #[.int .i64 xf, .int .i64 xt, .bool xw], .pointer (some ⟨y0, 0, none⟩), .pointer (some ⟨y1, 0, none⟩), .pointer (some ⟨y2, 0, none⟩), .pointer (some ⟨y3, 0, none⟩)] w fun e w' => e = .returned (.bool (vgB c o t true ⟨xf, xt, xw⟩)) ∧ Below w.heap.size w w' := by
  obtain ⟨A, cap, pb, pa, sv, rfl, hA, hr⟩ := hc.ps.rows
  obtain ⟨rfl, hpb⟩ := hA (by omega)
  obtain ⟨⟨-, -, r2, -, -⟩, hfs⟩ := hr o ho
  generalize sv o = s9 at *
  have hps := hc.pz.1
  have hpf := hc.pz.2 o
  have hB : Below w.heap.size w (w.alloc (.cells #[.int .i64 xf, .int .i64 xt, .bool xw] 65)) := (Below.refl _ _).alloc (Nat.le_refl _) _
  have hzb : Blk (w.alloc (.cells #[.int .i64 xf, .int .i64 xt, .bool xw] 65)) w.heap.size 65 [.int .i64 xf, .int .i64 xt, .bool xw] := Blk.new _ _ _
  have hS : VgS (w.alloc (.cells #[.int .i64 xf, .int .i64 xt, .bool xw] 65)) c (.slice (some ⟨pb, pa, none⟩) c.ps.length cap) vd vw vg (.func (.func 74) #[] #[]) s9 w.heap.size y0 y1 y2 y3 pb pa xf xt xw t o (c.ps.getD o paD).fr (w.alloc (.cells #[.int .i64 xf, .int .i64 xt, .bool xw] 65)) :=
    ⟨hzb, h0.below hB h0.lt, h1.below hB h1.lt, h2.below hB h2.lt, h3.below hB h3.lt, (hB.cell (p := ⟨pb, pa + o * 5 + 2, none⟩) hpb).trans r2, Nat.lt_of_lt_of_le hpb hB.size, hfs.below hB, Below.refl _ _⟩
  obtain ⟨A2, c2, rfl, -⟩ := hfs
  have HB := Lib.hid hB; have HC := Lib.hid (vcnt_w xf xt xw)
  obtain ⟨Q, hQ⟩ : ∃ Q, vgB c o t true ⟨xf, xt, xw⟩ = Q := ⟨_, rfl⟩
  rw [hQ]
  unfold vgB at hQ
  simp only [Int.toNat_natCast] at hQ
  have HQ := Lib.hid hQ
  clear hQ hB hzb h0 h1 h2 h3 r2 hr hA hc
  generalize (c.ps.getD o paD).fr = l at *
  generalize hl : l.length = n2 at *
  have HN := Lib.hid hl
  clear hl
  generalize c.ps.length = n at *
  have hoi : (o : Int) < (n : Int) := by omega
  by_cases ht : xt = t
  · by_cases hc : (xw || !true) = true
    · have HW := Lib.hid hc
      have HQ9 := Lib.hid (show Q = memI l xf by rw [← HQ.out, hc, decide_eq_true ht]; simp)
      subst ht
      clear hc
      go_enter Tryz.func92, Tryz.ntmps92
      go_wp2_with fail
      generalize w.alloc (.cells #[.int .i64 xf, .int .i64 xt, .bool xw] 65) = w1 at *
      generalize hz : w.heap.size = z at *
      refine wp_region_held_drew (S := (fun w' => w'.cell? ⟨z, 0, none⟩ = some (.int .i64 xf) ∧ w'.cell? ⟨z, 1, none⟩ = some (.int .i64 xt) ∧ w'.cell? ⟨z, 2, none⟩ = some (.bool xw) ∧ w'.cell? ⟨y0, 0, none⟩ = some (.int .i64 xt) ∧ w'.cell? ⟨y1, 0, none⟩ = some (.func (.func 74) #[] #[]) ∧ w'.cell? ⟨y2, 1, none⟩ = some (.slice (some ⟨pb, pa, none⟩) n cap) ∧ w'.cell? ⟨y3, 0, none⟩ = some (.int .i64 (o : Int)) ∧ w'.cell? ⟨pb, pa + o * 5 + 2, none⟩ = some (.slice A2 n2 c2) ∧ VgS w1 c (.slice (some ⟨pb, pa, none⟩) n cap) vd vw vg (.func (.func 74) #[] #[]) (.slice A2 n2 c2) z y0 y1 y2 y3 pb pa xf xt xw xt o l w')) (by kernel_rfl) ?_ (fun hHeld => ?_)
      · try dsimp only
        (go_split_ands; refine VgS.all ?_; (first | with_reducible assumption | with_reducible exact VgS.drew (by assumption) | with_reducible exact VgS.next (by assumption) (by assumption)))
      refine wpAnyH_take (i := 0) (v := ?v0zC) rfl (by kernel_rfl) (by kernel_rfl) (by kernel_rfl) (fun _ _ _ h => h) (Or.inl ⟨by rfl, ?hy0zC⟩) (by assumption) ?rest0zC
      case hy0zC => intro w hSw; (try dsimp only at hSw); first | (go_simp; done) | (go_simp; with_reducible rfl)
      try simp only [Act.put, List.getElem_toArray, List.getElem_cons_succ, List.getElem_cons_zero, List.setIfInBounds_toArray, List.set_cons_zero, List.set_cons_succ]
      refine wpAnyH_take (i := 1) (v := ?v1zC) rfl (by kernel_rfl) (by kernel_rfl) (by kernel_rfl) (fun _ _ _ h => h) (Or.inl ⟨by rfl, ?hy1zC⟩) (by assumption) ?rest1zC
      case hy1zC => intro w hSw; (try dsimp only at hSw); first | (go_simp; done) | (go_simp; with_reducible rfl)
      try simp only [Act.put, List.getElem_toArray, List.getElem_cons_succ, List.getElem_cons_zero, List.setIfInBounds_toArray, List.set_cons_zero, List.set_cons_succ]
      refine wpAnyH_take (i := 2) (v := ?v2zC) rfl (by kernel_rfl) (by kernel_rfl) (by kernel_rfl) (fun _ _ _ h => h) (Or.inl ⟨by rfl, ?hy2zC⟩) (by assumption) ?rest2zC
      case hy2zC => intro w hSw; (try dsimp only at hSw); first | (go_simp; done) | (go_simp; with_reducible rfl)
      try simp only [Act.put, List.getElem_toArray, List.getElem_cons_succ, List.getElem_cons_zero, List.setIfInBounds_toArray, List.set_cons_zero, List.set_cons_succ]
      refine wpAnyH_take (i := 3) (v := ?v3zC) rfl (by kernel_rfl) (by kernel_rfl) (by kernel_rfl) (fun _ _ _ h => h) (Or.inl ⟨by rfl, ?hy3zC⟩) (by assumption) ?rest3zC
      case hy3zC => intro w hSw; (try dsimp only at hSw); first | (go_simp; done) | (go_simp; with_reducible rfl)
      try simp only [Act.put, List.getElem_toArray, List.getElem_cons_succ, List.getElem_cons_zero, List.setIfInBounds_toArray, List.set_cons_zero, List.set_cons_succ]
      refine wpAnyH_take (i := 4) (v := ?v4zC) rfl (by kernel_rfl) (by kernel_rfl) (by kernel_rfl) (fun _ _ _ h => h) (Or.inl ⟨by rfl, ?hy4zC⟩) (by assumption) ?rest4zC
      case hy4zC => intro w hSw; (try dsimp only at hSw); first | (go_simp; done) | (go_simp; with_reducible rfl)
      try simp only [Act.put, List.getElem_toArray, List.getElem_cons_succ, List.getElem_cons_zero, List.setIfInBounds_toArray, List.set_cons_zero, List.set_cons_succ]
      refine wpAnyH_take (i := 5) (v := ?v5zC) rfl (by kernel_rfl) (by kernel_rfl) (by kernel_rfl) (fun _ _ _ h => h) (Or.inl ⟨by rfl, ?hy5zC⟩) (by assumption) ?rest5zC
      case hy5zC => intro w hSw; (try dsimp only at hSw); first | (go_simp; done) | (go_simp; with_reducible rfl)
      try simp only [Act.put, List.getElem_toArray, List.getElem_cons_succ, List.getElem_cons_zero, List.setIfInBounds_toArray, List.set_cons_zero, List.set_cons_succ]
      refine wpAnyH_take (i := 6) (v := ?v6zC) rfl (by kernel_rfl) (by kernel_rfl) (by kernel_rfl) (fun _ _ _ h => h) (Or.inl ⟨by rfl, ?hy6zC⟩) (by assumption) ?rest6zC
      case hy6zC => intro w hSw; (try dsimp only at hSw); first | (go_simp; done) | (go_simp; with_reducible rfl)
      try simp only [Act.put, List.getElem_toArray, List.getElem_cons_succ, List.getElem_cons_zero, List.setIfInBounds_toArray, List.set_cons_zero, List.set_cons_succ]
      refine wpAnyH_ready (rs := [7]) (by kernel_rfl) (by simp) ?_
      refine AllReadyH.cons rfl (fun K hK => ?_) AllReadyH.nil
      go_simp
      refine (HC.out _).mono ?_
      rintro e w5 ⟨rfl, hb5⟩
      rw [HW.out]
      go_wp2_with fail
      refine hK.out _ _ ?_ (fun hHeld2 => ?_)
      · try dsimp only
        (go_split_ands; refine VgS.all ?_; (first | with_reducible assumption | with_reducible exact VgS.drew (by assumption) | with_reducible exact VgS.next (by assumption) (by assumption)))
      clear hK K hHeld
      have hHeld := hHeld2; clear hHeld2
      try simp only [Act.put, List.getElem_toArray, List.getElem_cons_succ, List.getElem_cons_zero, List.setIfInBounds_toArray, List.set_cons_zero, List.set_cons_succ]
      refine wpAnyH_take (i := 8) (v := ?v8zC) rfl (by kernel_rfl) (by kernel_rfl) (by kernel_rfl) (fun _ _ _ h => h) (Or.inl ⟨by rfl, ?hy8zC⟩) (by assumption) ?rest8zC
      case hy8zC => intro w hSw; (try dsimp only at hSw); first | (go_simp; done) | (go_simp; with_reducible rfl)
      try simp only [Act.put, List.getElem_toArray, List.getElem_cons_succ, List.getElem_cons_zero, List.setIfInBounds_toArray, List.set_cons_zero, List.set_cons_succ]
      refine wpAnyH_take (i := 9) (v := ?v9zC) rfl (by kernel_rfl) (by kernel_rfl) (by kernel_rfl) (fun _ _ _ h => h) (Or.inl ⟨by rfl, ?hy9zC⟩) (by assumption) ?rest9zC
      case hy9zC => intro w hSw; (try dsimp only at hSw); first | (go_simp; done) | (go_simp; with_reducible rfl)
      try simp only [Act.put, List.getElem_toArray, List.getElem_cons_succ, List.getElem_cons_zero, List.setIfInBounds_toArray, List.set_cons_zero, List.set_cons_succ]
      refine wpAnyH_take (i := 10) (v := ?v10zC) rfl (by kernel_rfl) (by kernel_rfl) (by kernel_rfl) (fun _ _ _ h => h) (Or.inl ⟨by rfl, ?hy10zC⟩) (by assumption) ?rest10zC
      case hy10zC => intro w hSw; (try dsimp only at hSw); first | (go_simp; done) | (go_simp; with_reducible rfl)
      try simp only [Act.put, List.getElem_toArray, List.getElem_cons_succ, List.getElem_cons_zero, List.setIfInBounds_toArray, List.set_cons_zero, List.set_cons_succ]
      refine wpAnyH_take (i := 11) (v := ?v11zC) rfl (by kernel_rfl) (by kernel_rfl) (by kernel_rfl) (fun _ _ _ h => h) (Or.inl ⟨by rfl, ?hy11zC⟩) (by assumption) ?rest11zC
      case hy11zC => intro w hSw; (try dsimp only at hSw); first | (go_simp; done) | (go_simp; with_reducible rfl)
      try simp only [Act.put, List.getElem_toArray, List.getElem_cons_succ, List.getElem_cons_zero, List.setIfInBounds_toArray, List.set_cons_zero, List.set_cons_succ]
      refine wpAnyH_take (i := 12) (v := ?v12zC) rfl (by kernel_rfl) (by kernel_rfl) (by kernel_rfl) (fun _ _ _ h => h) (Or.inl ⟨by rfl, ?hy12zC⟩) (by assumption) ?rest12zC
      case hy12zC => intro w hSw; (try dsimp only at hSw); first | (go_simp; done) | (go_simp; with_reducible rfl)
      try simp only [Act.put, List.getElem_toArray, List.getElem_cons_succ, List.getElem_cons_zero, List.setIfInBounds_toArray, List.set_cons_zero, List.set_cons_succ]
      refine wpAnyH_take (i := 13) (v := ?v13zC) rfl (by kernel_rfl) (by kernel_rfl) (by kernel_rfl) (fun _ _ _ h => h) (Or.inl ⟨by rfl, ?hy13zC⟩) (by assumption) ?rest13zC
      case hy13zC => intro w hSw; (try dsimp only at hSw); first | (go_simp; done) | (go_simp; with_reducible rfl)
      try simp only [Act.put, List.getElem_toArray, List.getElem_cons_succ, List.getElem_cons_zero, List.setIfInBounds_toArray, List.set_cons_zero, List.set_cons_succ]
      refine wpAnyH_take (i := 14) (v := ?v14zC) rfl (by kernel_rfl) (by kernel_rfl) (by kernel_rfl) (fun _ _ _ h => h) (Or.inl ⟨by rfl, ?hy14zC⟩) (by assumption) ?rest14zC
      case hy14zC => intro w hSw; (try dsimp only at hSw); first | (go_simp; done) | (go_simp; with_reducible rfl)
      try simp only [Act.put, List.getElem_toArray, List.getElem_cons_succ, List.getElem_cons_zero, List.setIfInBounds_toArray, List.set_cons_zero, List.set_cons_succ]
      refine wpAnyH_take (i := 15) (v := ?v15zC) rfl (by kernel_rfl) (by kernel_rfl) (by kernel_rfl) (fun _ _ _ h => h) (Or.inl ⟨by rfl, ?hy15zC⟩) (by assumption) ?rest15zC
      case hy15zC => intro w hSw; (try dsimp only at hSw); first | (go_simp; done) | (go_simp; with_reducible rfl)
      try simp only [Act.put, List.getElem_toArray, List.getElem_cons_succ, List.getElem_cons_zero, List.setIfInBounds_toArray, List.set_cons_zero, List.set_cons_succ]
      refine wpAnyH_take (i := 16) (v := ?v16zC) rfl (by kernel_rfl) (by kernel_rfl) (by kernel_rfl) (fun _ _ _ h => h) (Or.inl ⟨by rfl, ?hy16zC⟩) (by assumption) ?rest16zC
      case hy16zC => intro w hSw; (try dsimp only at hSw); first | (go_simp; done) | (go_simp; with_reducible rfl)
      try simp only [Act.put, List.getElem_toArray, List.getElem_cons_succ, List.getElem_cons_zero, List.setIfInBounds_toArray, List.set_cons_zero, List.set_cons_succ]
      refine wpAnyH_take (i := 17) (v := ?v17zC) rfl (by kernel_rfl) (by kernel_rfl) (by kernel_rfl) (fun _ _ _ h => h) (Or.inl ⟨by rfl, ?hy17zC⟩) (by assumption) ?rest17zC
      case hy17zC => intro w hSw; (try dsimp only at hSw); first | (go_simp; done) | (go_simp; with_reducible rfl)
      try simp only [Act.put, List.getElem_toArray, List.getElem_cons_succ, List.getElem_cons_zero, List.setIfInBounds_toArray, List.set_cons_zero, List.set_cons_succ]
      refine wpAnyH_ready (rs := [18]) (by kernel_rfl) (by simp) ?_
      refine AllReadyH.cons rfl (fun K hK => ?_) AllReadyH.nil
      go_simp
      refine (contains_any _ l xf _ hHeld.2.2.2.2.2.2.2.2.fs (by rw [HN.out]; unfold maxLen; omega)).mono ?_
      rintro e w6 ⟨rfl, rfl⟩
      go_wp2_with fail
      refine hK.out _ _ ?_ (fun hHeld2 => ?_)
      · try dsimp only
        (go_split_ands; refine VgS.all ?_; (first | with_reducible assumption | with_reducible exact VgS.drew (by assumption) | with_reducible exact VgS.next (by assumption) (by assumption)))
      clear hK K hHeld
      have hHeld := hHeld2; clear hHeld2
      try simp only [Act.put, List.getElem_toArray, List.getElem_cons_succ, List.getElem_cons_zero, List.setIfInBounds_toArray, List.set_cons_zero, List.set_cons_succ]
      refine wpAnyH_take (i := 19) (v := ?v19zC) rfl (by kernel_rfl) (by kernel_rfl) (by kernel_rfl) (fun _ _ _ h => h) (Or.inl ⟨by rfl, ?hy19zC⟩) (by assumption) ?rest19zC
      case hy19zC => intro w hSw; (try dsimp only at hSw); first | (go_simp; done) | (go_simp; with_reducible rfl)
      try simp only [Act.put, List.getElem_toArray, List.getElem_cons_succ, List.getElem_cons_zero, List.setIfInBounds_toArray, List.set_cons_zero, List.set_cons_succ]
      refine wpAnyH_take (i := 20) (v := ?v20zC) rfl (by kernel_rfl) (by kernel_rfl) (by kernel_rfl) (fun _ _ _ h => h) (Or.inl ⟨by rfl, ?hy20zC⟩) (by assumption) ?rest20zC
      case hy20zC => intro w hSw; (try dsimp only at hSw); first | (go_simp; done) | (go_simp; with_reducible rfl)
      try simp only [Act.put, List.getElem_toArray, List.getElem_cons_succ, List.getElem_cons_zero, List.setIfInBounds_toArray, List.set_cons_zero, List.set_cons_succ]
      refine wpAnyH_done (by kernel_rfl) ?_ _
      all_goals
        have HS9 := Lib.hid hHeld.2.2.2.2.2.2.2.2.below
        clear hHeld
        go_wp2_with fail
        go_ret
        exact ⟨by rw [HQ9.out]; rfl, by rw [hz]; exact Below.down HB.out HS9.out (by have := HB.out.size; omega)⟩
    · have HW := Lib.hid (show (xw || !true) = false from Bool.eq_false_iff.2 hc)
      have HQ9 := Lib.hid (show Q = false by rw [← HQ.out, HW.out]; simp)
      subst ht
      clear hc
      go_enter Tryz.func92, Tryz.ntmps92
      go_wp2_with fail
      generalize w.alloc (.cells #[.int .i64 xf, .int .i64 xt, .bool xw] 65) = w1 at *
      generalize hz : w.heap.size = z at *
      refine wp_region_held_drew (S := (fun w' => w'.cell? ⟨z, 0, none⟩ = some (.int .i64 xf) ∧ w'.cell? ⟨z, 1, none⟩ = some (.int .i64 xt) ∧ w'.cell? ⟨z, 2, none⟩ = some (.bool xw) ∧ w'.cell? ⟨y0, 0, none⟩ = some (.int .i64 xt) ∧ w'.cell? ⟨y1, 0, none⟩ = some (.func (.func 74) #[] #[]) ∧ w'.cell? ⟨y2, 1, none⟩ = some (.slice (some ⟨pb, pa, none⟩) n cap) ∧ w'.cell? ⟨y3, 0, none⟩ = some (.int .i64 (o : Int)) ∧ w'.cell? ⟨pb, pa + o * 5 + 2, none⟩ = some (.slice A2 n2 c2) ∧ VgS w1 c (.slice (some ⟨pb, pa, none⟩) n cap) vd vw vg (.func (.func 74) #[] #[]) (.slice A2 n2 c2) z y0 y1 y2 y3 pb pa xf xt xw xt o l w')) (by kernel_rfl) ?_ (fun hHeld => ?_)
      · try dsimp only
        (go_split_ands; refine VgS.all ?_; (first | with_reducible assumption | with_reducible exact VgS.drew (by assumption) | with_reducible exact VgS.next (by assumption) (by assumption)))
      refine wpAnyH_take (i := 0) (v := ?v0zB) rfl (by kernel_rfl) (by kernel_rfl) (by kernel_rfl) (fun _ _ _ h => h) (Or.inl ⟨by rfl, ?hy0zB⟩) (by assumption) ?rest0zB
      case hy0zB => intro w hSw; (try dsimp only at hSw); first | (go_simp; done) | (go_simp; with_reducible rfl)
      try simp only [Act.put, List.getElem_toArray, List.getElem_cons_succ, List.getElem_cons_zero, List.setIfInBounds_toArray, List.set_cons_zero, List.set_cons_succ]
      refine wpAnyH_take (i := 1) (v := ?v1zB) rfl (by kernel_rfl) (by kernel_rfl) (by kernel_rfl) (fun _ _ _ h => h) (Or.inl ⟨by rfl, ?hy1zB⟩) (by assumption) ?rest1zB
      case hy1zB => intro w hSw; (try dsimp only at hSw); first | (go_simp; done) | (go_simp; with_reducible rfl)
      try simp only [Act.put, List.getElem_toArray, List.getElem_cons_succ, List.getElem_cons_zero, List.setIfInBounds_toArray, List.set_cons_zero, List.set_cons_succ]
      refine wpAnyH_take (i := 2) (v := ?v2zB) rfl (by kernel_rfl) (by kernel_rfl) (by kernel_rfl) (fun _ _ _ h => h) (Or.inl ⟨by rfl, ?hy2zB⟩) (by assumption) ?rest2zB
      case hy2zB => intro w hSw; (try dsimp only at hSw); first | (go_simp; done) | (go_simp; with_reducible rfl)
      try simp only [Act.put, List.getElem_toArray, List.getElem_cons_succ, List.getElem_cons_zero, List.setIfInBounds_toArray, List.set_cons_zero, List.set_cons_succ]
      refine wpAnyH_take (i := 3) (v := ?v3zB) rfl (by kernel_rfl) (by kernel_rfl) (by kernel_rfl) (fun _ _ _ h => h) (Or.inl ⟨by rfl, ?hy3zB⟩) (by assumption) ?rest3zB
      case hy3zB => intro w hSw; (try dsimp only at hSw); first | (go_simp; done) | (go_simp; with_reducible rfl)
      try simp only [Act.put, List.getElem_toArray, List.getElem_cons_succ, List.getElem_cons_zero, List.setIfInBounds_toArray, List.set_cons_zero, List.set_cons_succ]
      refine wpAnyH_take (i := 4) (v := ?v4zB) rfl (by kernel_rfl) (by kernel_rfl) (by kernel_rfl) (fun _ _ _ h => h) (Or.inl ⟨by rfl, ?hy4zB⟩) (by assumption) ?rest4zB
      case hy4zB => intro w hSw; (try dsimp only at hSw); first | (go_simp; done) | (go_simp; with_reducible rfl)
      try simp only [Act.put, List.getElem_toArray, List.getElem_cons_succ, List.getElem_cons_zero, List.setIfInBounds_toArray, List.set_cons_zero, List.set_cons_succ]
      refine wpAnyH_take (i := 5) (v := ?v5zB) rfl (by kernel_rfl) (by kernel_rfl) (by kernel_rfl) (fun _ _ _ h => h) (Or.inl ⟨by rfl, ?hy5zB⟩) (by assumption) ?rest5zB
      case hy5zB => intro w hSw; (try dsimp only at hSw); first | (go_simp; done) | (go_simp; with_reducible rfl)
      try simp only [Act.put, List.getElem_toArray, List.getElem_cons_succ, List.getElem_cons_zero, List.setIfInBounds_toArray, List.set_cons_zero, List.set_cons_succ]
      refine wpAnyH_take (i := 6) (v := ?v6zB) rfl (by kernel_rfl) (by kernel_rfl) (by kernel_rfl) (fun _ _ _ h => h) (Or.inl ⟨by rfl, ?hy6zB⟩) (by assumption) ?rest6zB
      case hy6zB => intro w hSw; (try dsimp only at hSw); first | (go_simp; done) | (go_simp; with_reducible rfl)
      try simp only [Act.put, List.getElem_toArray, List.getElem_cons_succ, List.getElem_cons_zero, List.setIfInBounds_toArray, List.set_cons_zero, List.set_cons_succ]
      refine wpAnyH_ready (rs := [7]) (by kernel_rfl) (by simp) ?_
      refine AllReadyH.cons rfl (fun K hK => ?_) AllReadyH.nil
      go_simp
      refine (HC.out _).mono ?_
      rintro e w5 ⟨rfl, hb5⟩
      rw [HW.out]
      go_wp2_with fail
      refine hK.out _ _ ?_ (fun hHeld2 => ?_)
      · try dsimp only
        (go_split_ands; refine VgS.all ?_; (first | with_reducible assumption | with_reducible exact VgS.drew (by assumption) | with_reducible exact VgS.next (by assumption) (by assumption)))
      clear hK K hHeld
      have hHeld := hHeld2; clear hHeld2
      try simp only [Act.put, List.getElem_toArray, List.getElem_cons_succ, List.getElem_cons_zero, List.setIfInBounds_toArray, List.set_cons_zero, List.set_cons_succ]
      refine wpAnyH_take (i := 8) (v := ?v8zB) rfl (by kernel_rfl) (by kernel_rfl) (by kernel_rfl) (fun _ _ _ h => h) (Or.inl ⟨by rfl, ?hy8zB⟩) (by assumption) ?rest8zB
      case hy8zB => intro w hSw; (try dsimp only at hSw); first | (go_simp; done) | (go_simp; with_reducible rfl)
      try simp only [Act.put, List.getElem_toArray, List.getElem_cons_succ, List.getElem_cons_zero, List.setIfInBounds_toArray, List.set_cons_zero, List.set_cons_succ]
      refine wpAnyH_take (i := 9) (v := ?v9zB) rfl (by kernel_rfl) (by kernel_rfl) (by kernel_rfl) (fun _ _ _ h => h) (Or.inl ⟨by rfl, ?hy9zB⟩) (by assumption) ?rest9zB
      case hy9zB => intro w hSw; (try dsimp only at hSw); first | (go_simp; done) | (go_simp; with_reducible rfl)
      try simp only [Act.put, List.getElem_toArray, List.getElem_cons_succ, List.getElem_cons_zero, List.setIfInBounds_toArray, List.set_cons_zero, List.set_cons_succ]
      refine wpAnyH_take (i := 10) (v := undef) rfl (by kernel_rfl) (by kernel_rfl) (by kernel_rfl) (fun _ _ _ h => h) (Or.inr ⟨by rfl, rfl⟩) (by assumption) ?rest10zB
      try simp only [Act.put, List.getElem_toArray, List.getElem_cons_succ, List.getElem_cons_zero, List.setIfInBounds_toArray, List.set_cons_zero, List.set_cons_succ]
      refine wpAnyH_take (i := 11) (v := undef) rfl (by kernel_rfl) (by kernel_rfl) (by kernel_rfl) (fun _ _ _ h => h) (Or.inr ⟨by rfl, rfl⟩) (by assumption) ?rest11zB
      try simp only [Act.put, List.getElem_toArray, List.getElem_cons_succ, List.getElem_cons_zero, List.setIfInBounds_toArray, List.set_cons_zero, List.set_cons_succ]
      refine wpAnyH_take (i := 12) (v := undef) rfl (by kernel_rfl) (by kernel_rfl) (by kernel_rfl) (fun _ _ _ h => h) (Or.inr ⟨by rfl, rfl⟩) (by assumption) ?rest12zB
      try simp only [Act.put, List.getElem_toArray, List.getElem_cons_succ, List.getElem_cons_zero, List.setIfInBounds_toArray, List.set_cons_zero, List.set_cons_succ]
      refine wpAnyH_take (i := 13) (v := undef) rfl (by kernel_rfl) (by kernel_rfl) (by kernel_rfl) (fun _ _ _ h => h) (Or.inr ⟨by rfl, rfl⟩) (by assumption) ?rest13zB
      try simp only [Act.put, List.getElem_toArray, List.getElem_cons_succ, List.getElem_cons_zero, List.setIfInBounds_toArray, List.set_cons_zero, List.set_cons_succ]
      refine wpAnyH_take (i := 14) (v := undef) rfl (by kernel_rfl) (by kernel_rfl) (by kernel_rfl) (fun _ _ _ h => h) (Or.inr ⟨by rfl, rfl⟩) (by assumption) ?rest14zB
      try simp only [Act.put, List.getElem_toArray, List.getElem_cons_succ, List.getElem_cons_zero, List.setIfInBounds_toArray, List.set_cons_zero, List.set_cons_succ]
      refine wpAnyH_take (i := 15) (v := undef) rfl (by kernel_rfl) (by kernel_rfl) (by kernel_rfl) (fun _ _ _ h => h) (Or.inr ⟨by rfl, rfl⟩) (by assumption) ?rest15zB
      try simp only [Act.put, List.getElem_toArray, List.getElem_cons_succ, List.getElem_cons_zero, List.setIfInBounds_toArray, List.set_cons_zero, List.set_cons_succ]
      refine wpAnyH_take (i := 16) (v := undef) rfl (by kernel_rfl) (by kernel_rfl) (by kernel_rfl) (fun _ _ _ h => h) (Or.inr ⟨by rfl, rfl⟩) (by assumption) ?rest16zB
      try simp only [Act.put, List.getElem_toArray, List.getElem_cons_succ, List.getElem_cons_zero, List.setIfInBounds_toArray, List.set_cons_zero, List.set_cons_succ]
      refine wpAnyH_take (i := 17) (v := undef) rfl (by kernel_rfl) (by kernel_rfl) (by kernel_rfl) (fun _ _ _ h => h) (Or.inr ⟨by rfl, rfl⟩) (by assumption) ?rest17zB
      try simp only [Act.put, List.getElem_toArray, List.getElem_cons_succ, List.getElem_cons_zero, List.setIfInBounds_toArray, List.set_cons_zero, List.set_cons_succ]
      refine wpAnyH_take (i := 18) (v := undef) rfl (by kernel_rfl) (by kernel_rfl) (by kernel_rfl) (fun _ _ _ h => h) (Or.inr ⟨by rfl, rfl⟩) (by assumption) ?rest18zB
      try simp only [Act.put, List.getElem_toArray, List.getElem_cons_succ, List.getElem_cons_zero, List.setIfInBounds_toArray, List.set_cons_zero, List.set_cons_succ]
      refine wpAnyH_take (i := 19) (v := ?v19zB) rfl (by kernel_rfl) (by kernel_rfl) (by kernel_rfl) (fun _ _ _ h => h) (Or.inl ⟨by rfl, ?hy19zB⟩) (by assumption) ?rest19zB
      case hy19zB => intro w hSw; (try dsimp only at hSw); first | (go_simp; done) | (go_simp; with_reducible rfl)
      try simp only [Act.put, List.getElem_toArray, List.getElem_cons_succ, List.getElem_cons_zero, List.setIfInBounds_toArray, List.set_cons_zero, List.set_cons_succ]
      refine wpAnyH_take (i := 20) (v := ?v20zB) rfl (by kernel_rfl) (by kernel_rfl) (by kernel_rfl) (fun _ _ _ h => h) (Or.inl ⟨by rfl, ?hy20zB⟩) (by assumption) ?rest20zB
      case hy20zB => intro w hSw; (try dsimp only at hSw); first | (go_simp; done) | (go_simp; with_reducible rfl)
      try simp only [Act.put, List.getElem_toArray, List.getElem_cons_succ, List.getElem_cons_zero, List.setIfInBounds_toArray, List.set_cons_zero, List.set_cons_succ]
      refine wpAnyH_done (by kernel_rfl) ?_ _
      all_goals
        have HS9 := Lib.hid hHeld.2.2.2.2.2.2.2.2.below
        clear hHeld
        go_wp2_with fail
        go_ret
        exact ⟨by rw [HQ9.out]; rfl, by rw [hz]; exact Below.down HB.out HS9.out (by have := HB.out.size; omega)⟩
  · have hne : (xt == t) = false := by simpa using ht
    have HQ9 := Lib.hid (show Q = false by rw [← HQ.out, decide_eq_false ht]; rfl)
    clear ht
    go_enter Tryz.func92, Tryz.ntmps92
    go_wp2_with fail
    generalize w.alloc (.cells #[.int .i64 xf, .int .i64 xt, .bool xw] 65) = w1 at *
    generalize hz : w.heap.size = z at *
    refine wp_region_held_drew (S := (fun w' => w'.cell? ⟨z, 0, none⟩ = some (.int .i64 xf) ∧ w'.cell? ⟨z, 1, none⟩ = some (.int .i64 xt) ∧ w'.cell? ⟨z, 2, none⟩ = some (.bool xw) ∧ w'.cell? ⟨y0, 0, none⟩ = some (.int .i64 t) ∧ w'.cell? ⟨y1, 0, none⟩ = some (.func (.func 74) #[] #[]) ∧ w'.cell? ⟨y2, 1, none⟩ = some (.slice (some ⟨pb, pa, none⟩) n cap) ∧ w'.cell? ⟨y3, 0, none⟩ = some (.int .i64 (o : Int)) ∧ w'.cell? ⟨pb, pa + o * 5 + 2, none⟩ = some (.slice A2 n2 c2) ∧ VgS w1 c (.slice (some ⟨pb, pa, none⟩) n cap) vd vw vg (.func (.func 74) #[] #[]) (.slice A2 n2 c2) z y0 y1 y2 y3 pb pa xf xt xw t o l w')) (by kernel_rfl) ?_ (fun hHeld => ?_)
    · try dsimp only
      (go_split_ands; refine VgS.all ?_; (first | with_reducible assumption | with_reducible exact VgS.drew (by assumption) | with_reducible exact VgS.next (by assumption) (by assumption)))
    refine wpAnyH_take (i := 0) (v := ?v0zA) rfl (by kernel_rfl) (by kernel_rfl) (by kernel_rfl) (fun _ _ _ h => h) (Or.inl ⟨by rfl, ?hy0zA⟩) (by assumption) ?rest0zA
    case hy0zA => intro w hSw; (try dsimp only at hSw); first | (go_simp; done) | (go_simp; with_reducible rfl)
    try simp only [Act.put, List.getElem_toArray, List.getElem_cons_succ, List.getElem_cons_zero, List.setIfInBounds_toArray, List.set_cons_zero, List.set_cons_succ]
    refine wpAnyH_take (i := 1) (v := ?v1zA) rfl (by kernel_rfl) (by kernel_rfl) (by kernel_rfl) (fun _ _ _ h => h) (Or.inl ⟨by rfl, ?hy1zA⟩) (by assumption) ?rest1zA
    case hy1zA => intro w hSw; (try dsimp only at hSw); first | (go_simp; done) | (go_simp; with_reducible rfl)
    try simp only [Act.put, List.getElem_toArray, List.getElem_cons_succ, List.getElem_cons_zero, List.setIfInBounds_toArray, List.set_cons_zero, List.set_cons_succ]
    refine wpAnyH_take (i := 2) (v := ?v2zA) rfl (by kernel_rfl) (by kernel_rfl) (by kernel_rfl) (fun _ _ _ h => h) (Or.inl ⟨by rfl, ?hy2zA⟩) (by assumption) ?rest2zA
    case hy2zA => intro w hSw; (try dsimp only at hSw); first | (go_simp; done) | (go_simp; with_reducible rfl)
    try simp only [Act.put, List.getElem_toArray, List.getElem_cons_succ, List.getElem_cons_zero, List.setIfInBounds_toArray, List.set_cons_zero, List.set_cons_succ]
    refine wpAnyH_take (i := 3) (v := ?v3zA) rfl (by kernel_rfl) (by kernel_rfl) (by kernel_rfl) (fun _ _ _ h => h) (Or.inl ⟨by rfl, ?hy3zA⟩) (by assumption) ?rest3zA
    case hy3zA => intro w hSw; (try dsimp only at hSw); first | (go_simp; done) | (go_simp; with_reducible rfl)
    try simp only [Act.put, List.getElem_toArray, List.getElem_cons_succ, List.getElem_cons_zero, List.setIfInBounds_toArray, List.set_cons_zero, List.set_cons_succ]
    refine wpAnyH_take (i := 4) (v := ?v4zA) rfl (by kernel_rfl) (by kernel_rfl) (by kernel_rfl) (fun _ _ _ h => h) (Or.inl ⟨by rfl, ?hy4zA⟩) (by assumption) ?rest4zA
    case hy4zA => intro w hSw; (try dsimp only at hSw); first | (go_simp; done) | (go_simp; with_reducible rfl)
    try simp only [Act.put, List.getElem_toArray, List.getElem_cons_succ, List.getElem_cons_zero, List.setIfInBounds_toArray, List.set_cons_zero, List.set_cons_succ]
    refine wpAnyH_take (i := 5) (v := undef) rfl (by kernel_rfl) (by kernel_rfl) (by kernel_rfl) (fun _ _ _ h => h) (Or.inr ⟨by rfl, rfl⟩) (by assumption) ?rest5zA
    try simp only [Act.put, List.getElem_toArray, List.getElem_cons_succ, List.getElem_cons_zero, List.setIfInBounds_toArray, List.set_cons_zero, List.set_cons_succ]
    refine wpAnyH_take (i := 6) (v := undef) rfl (by kernel_rfl) (by kernel_rfl) (by kernel_rfl) (fun _ _ _ h => h) (Or.inr ⟨by rfl, rfl⟩) (by assumption) ?rest6zA
    try simp only [Act.put, List.getElem_toArray, List.getElem_cons_succ, List.getElem_cons_zero, List.setIfInBounds_toArray, List.set_cons_zero, List.set_cons_succ]
    refine wpAnyH_take (i := 7) (v := undef) rfl (by kernel_rfl) (by kernel_rfl) (by kernel_rfl) (fun _ _ _ h => h) (Or.inr ⟨by rfl, rfl⟩) (by assumption) ?rest7zA
    try simp only [Act.put, List.getElem_toArray, List.getElem_cons_succ, List.getElem_cons_zero, List.setIfInBounds_toArray, List.set_cons_zero, List.set_cons_succ]
    refine wpAnyH_take (i := 8) (v := ?v8zA) rfl (by kernel_rfl) (by kernel_rfl) (by kernel_rfl) (fun _ _ _ h => h) (Or.inl ⟨by rfl, ?hy8zA⟩) (by assumption) ?rest8zA
    case hy8zA => intro w hSw; (try dsimp only at hSw); first | (go_simp; done) | (go_simp; with_reducible rfl)
    try simp only [Act.put, List.getElem_toArray, List.getElem_cons_succ, List.getElem_cons_zero, List.setIfInBounds_toArray, List.set_cons_zero, List.set_cons_succ]
    refine wpAnyH_take (i := 9) (v := ?v9zA) rfl (by kernel_rfl) (by kernel_rfl) (by kernel_rfl) (fun _ _ _ h => h) (Or.inl ⟨by rfl, ?hy9zA⟩) (by assumption) ?rest9zA
    case hy9zA => intro w hSw; (try dsimp only at hSw); first | (go_simp; done) | (go_simp; with_reducible rfl)
    try simp only [Act.put, List.getElem_toArray, List.getElem_cons_succ, List.getElem_cons_zero, List.setIfInBounds_toArray, List.set_cons_zero, List.set_cons_succ]
    refine wpAnyH_take (i := 10) (v := undef) rfl (by kernel_rfl) (by kernel_rfl) (by kernel_rfl) (fun _ _ _ h => h) (Or.inr ⟨by rfl, rfl⟩) (by assumption) ?rest10zA
    try simp only [Act.put, List.getElem_toArray, List.getElem_cons_succ, List.getElem_cons_zero, List.setIfInBounds_toArray, List.set_cons_zero, List.set_cons_succ]
    refine wpAnyH_take (i := 11) (v := undef) rfl (by kernel_rfl) (by kernel_rfl) (by kernel_rfl) (fun _ _ _ h => h) (Or.inr ⟨by rfl, rfl⟩) (by assumption) ?rest11zA
    try simp only [Act.put, List.getElem_toArray, List.getElem_cons_succ, List.getElem_cons_zero, List.setIfInBounds_toArray, List.set_cons_zero, List.set_cons_succ]
    refine wpAnyH_take (i := 12) (v := undef) rfl (by kernel_rfl) (by kernel_rfl) (by kernel_rfl) (fun _ _ _ h => h) (Or.inr ⟨by rfl, rfl⟩) (by assumption) ?rest12zA
    try simp only [Act.put, List.getElem_toArray, List.getElem_cons_succ, List.getElem_cons_zero, List.setIfInBounds_toArray, List.set_cons_zero, List.set_cons_succ]
    refine wpAnyH_take (i := 13) (v := undef) rfl (by kernel_rfl) (by kernel_rfl) (by kernel_rfl) (fun _ _ _ h => h) (Or.inr ⟨by rfl, rfl⟩) (by assumption) ?rest13zA
    try simp only [Act.put, List.getElem_toArray, List.getElem_cons_succ, List.getElem_cons_zero, List.setIfInBounds_toArray, List.set_cons_zero, List.set_cons_succ]
    refine wpAnyH_take (i := 14) (v := undef) rfl (by kernel_rfl) (by kernel_rfl) (by kernel_rfl) (fun _ _ _ h => h) (Or.inr ⟨by rfl, rfl⟩) (by assumption) ?rest14zA
    try simp only [Act.put, List.getElem_toArray, List.getElem_cons_succ, List.getElem_cons_zero, List.setIfInBounds_toArray, List.set_cons_zero, List.set_cons_succ]
    refine wpAnyH_take (i := 15) (v := undef) rfl (by kernel_rfl) (by kernel_rfl) (by kernel_rfl) (fun _ _ _ h => h) (Or.inr ⟨by rfl, rfl⟩) (by assumption) ?rest15zA
    try simp only [Act.put, List.getElem_toArray, List.getElem_cons_succ, List.getElem_cons_zero, List.setIfInBounds_toArray, List.set_cons_zero, List.set_cons_succ]
    refine wpAnyH_take (i := 16) (v := undef) rfl (by kernel_rfl) (by kernel_rfl) (by kernel_rfl) (fun _ _ _ h => h) (Or.inr ⟨by rfl, rfl⟩) (by assumption) ?rest16zA
    try simp only [Act.put, List.getElem_toArray, List.getElem_cons_succ, List.getElem_cons_zero, List.setIfInBounds_toArray, List.set_cons_zero, List.set_cons_succ]
    refine wpAnyH_take (i := 17) (v := undef) rfl (by kernel_rfl) (by kernel_rfl) (by kernel_rfl) (fun _ _ _ h => h) (Or.inr ⟨by rfl, rfl⟩) (by assumption) ?rest17zA
    try simp only [Act.put, List.getElem_toArray, List.getElem_cons_succ, List.getElem_cons_zero, List.setIfInBounds_toArray, List.set_cons_zero, List.set_cons_succ]
    refine wpAnyH_take (i := 18) (v := undef) rfl (by kernel_rfl) (by kernel_rfl) (by kernel_rfl) (fun _ _ _ h => h) (Or.inr ⟨by rfl, rfl⟩) (by assumption) ?rest18zA
    try simp only [Act.put, List.getElem_toArray, List.getElem_cons_succ, List.getElem_cons_zero, List.setIfInBounds_toArray, List.set_cons_zero, List.set_cons_succ]
    refine wpAnyH_take (i := 19) (v := ?v19zA) rfl (by kernel_rfl) (by kernel_rfl) (by kernel_rfl) (fun _ _ _ h => h) (Or.inl ⟨by rfl, ?hy19zA⟩) (by assumption) ?rest19zA
    case hy19zA => intro w hSw; (try dsimp only at hSw); first | (go_simp; done) | (go_simp; with_reducible rfl)
    try simp only [Act.put, List.getElem_toArray, List.getElem_cons_succ, List.getElem_cons_zero, List.setIfInBounds_toArray, List.set_cons_zero, List.set_cons_succ]
    refine wpAnyH_take (i := 20) (v := ?v20zA) rfl (by kernel_rfl) (by kernel_rfl) (by kernel_rfl) (fun _ _ _ h => h) (Or.inl ⟨by rfl, ?hy20zA⟩) (by assumption) ?rest20zA
    case hy20zA => intro w hSw; (try dsimp only at hSw); first | (go_simp; done) | (go_simp; with_reducible rfl)
    try simp only [Act.put, List.getElem_toArray, List.getElem_cons_succ, List.getElem_cons_zero, List.setIfInBounds_toArray, List.set_cons_zero, List.set_cons_succ]
    refine wpAnyH_done (by kernel_rfl) ?_ _
    all_goals
      have HS9 := Lib.hid hHeld.2.2.2.2.2.2.2.2.below
      clear hHeld
      go_wp2_with fail
      go_ret
      exact ⟨by rw [HQ9.out]; rfl, by rw [hz]; exact Below.down HB.out HS9.out (by have := HB.out.size; omega)⟩
set_option maxHeartbeats 1000000 in
theorem vgrants_r {w : World} {c : Cf} {vp vd vw vg : Value} (h : CfAt w vp vd vw vg c) (o : Nat) (t : Int) (ho : o < c.ps.length) :
    Calls Tryz.prog 72 #[.agg #[.int .i64 c.fr, vp, vd, .int .i64 c.mj, vw, vg, .int .i64 c.se, .int .i64 c.qu, .int .i64 c.qt], .int .i64 o, .int .i64 t, .func (.func 73) #[] #[]] w fun e w' => e = .returned (.bool (gtB c o t false)) ∧ Below w.heap.size w w' := by
  have hgs := h.gs
  have hz := h.gz
  obtain ⟨A', cap', rfl⟩ : ∃ A' cap', vg = .slice A' c.gs.length cap' := by obtain ⟨A', c', e, _⟩ := hgs; exact ⟨A', c', e⟩
  generalize hgn : c.gs.length = m at *
  have b1 : Below w.heap.size w (w.alloc (.cells #[.int .i64 c.fr, vp, vd, .int .i64 c.mj, vw, .slice A' m cap', .int .i64 c.se, .int .i64 c.qu, .int .i64 c.qt] 27)) := (Below.refl _ _).alloc (Nat.le_refl _) _
  have b2 : Below w.heap.size w ((w.alloc (.cells #[.int .i64 c.fr, vp, vd, .int .i64 c.mj, vw, .slice A' m cap', .int .i64 c.se, .int .i64 c.qu, .int .i64 c.qt] 27)).alloc (.cells #[.int .i64 (o : Int)] 3)) := b1.alloc b1.size _
  have b3 : Below w.heap.size w (((w.alloc (.cells #[.int .i64 c.fr, vp, vd, .int .i64 c.mj, vw, .slice A' m cap', .int .i64 c.se, .int .i64 c.qu, .int .i64 c.qt] 27)).alloc (.cells #[.int .i64 (o : Int)] 3)).alloc (.cells #[.int .i64 t] 3)) := b2.alloc b2.size _
  have b4 : Below w.heap.size w ((((w.alloc (.cells #[.int .i64 c.fr, vp, vd, .int .i64 c.mj, vw, .slice A' m cap', .int .i64 c.se, .int .i64 c.qu, .int .i64 c.qt] 27)).alloc (.cells #[.int .i64 (o : Int)] 3)).alloc (.cells #[.int .i64 t] 3)).alloc (.cells #[.func (.func 73) #[] #[]] 109)) := b3.alloc b3.size _
  have k0 : Blk ((((w.alloc (.cells #[.int .i64 c.fr, vp, vd, .int .i64 c.mj, vw, .slice A' m cap', .int .i64 c.se, .int .i64 c.qu, .int .i64 c.qt] 27)).alloc (.cells #[.int .i64 (o : Int)] 3)).alloc (.cells #[.int .i64 t] 3)).alloc (.cells #[.func (.func 73) #[] #[]] 109)) w.heap.size 27 (cfc c vp vd vw (.slice A' m cap')) := (((Blk.new w _ (cfc c vp vd vw (.slice A' m cap'))).alloc _).alloc _).alloc _
  have k1 : Blk ((((w.alloc (.cells #[.int .i64 c.fr, vp, vd, .int .i64 c.mj, vw, .slice A' m cap', .int .i64 c.se, .int .i64 c.qu, .int .i64 c.qt] 27)).alloc (.cells #[.int .i64 (o : Int)] 3)).alloc (.cells #[.int .i64 t] 3)).alloc (.cells #[.func (.func 73) #[] #[]] 109)) (w.heap.size + 1) 3 [.int .i64 (o : Int)] := by
    have := ((Blk.new (w.alloc (.cells #[.int .i64 c.fr, vp, vd, .int .i64 c.mj, vw, .slice A' m cap', .int .i64 c.se, .int .i64 c.qu, .int .i64 c.qt] 27)) 3 [.int .i64 (o : Int)]).alloc (.cells #[.int .i64 t] 3)).alloc (.cells #[.func (.func 73) #[] #[]] 109)
    simpa using this
  have k2 : Blk ((((w.alloc (.cells #[.int .i64 c.fr, vp, vd, .int .i64 c.mj, vw, .slice A' m cap', .int .i64 c.se, .int .i64 c.qu, .int .i64 c.qt] 27)).alloc (.cells #[.int .i64 (o : Int)] 3)).alloc (.cells #[.int .i64 t] 3)).alloc (.cells #[.func (.func 73) #[] #[]] 109)) (w.heap.size + 1 + 1) 3 [.int .i64 t] := by
    have := (Blk.new ((w.alloc (.cells #[.int .i64 c.fr, vp, vd, .int .i64 c.mj, vw, .slice A' m cap', .int .i64 c.se, .int .i64 c.qu, .int .i64 c.qt] 27)).alloc (.cells #[.int .i64 (o : Int)] 3)) 3 [.int .i64 t]).alloc (.cells #[.func (.func 73) #[] #[]] 109)
    simpa using this
  have k3 : Blk ((((w.alloc (.cells #[.int .i64 c.fr, vp, vd, .int .i64 c.mj, vw, .slice A' m cap', .int .i64 c.se, .int .i64 c.qu, .int .i64 c.qt] 27)).alloc (.cells #[.int .i64 (o : Int)] 3)).alloc (.cells #[.int .i64 t] 3)).alloc (.cells #[.func (.func 73) #[] #[]] 109)) (w.heap.size + 1 + 1 + 1) 109 [.func (.func 73) #[] #[]] := by
    have := Blk.new (((w.alloc (.cells #[.int .i64 c.fr, vp, vd, .int .i64 c.mj, vw, .slice A' m cap', .int .i64 c.se, .int .i64 c.qu, .int .i64 c.qt] 27)).alloc (.cells #[.int .i64 (o : Int)] 3)).alloc (.cells #[.int .i64 t] 3)) 109 [.func (.func 73) #[] #[]]
    simpa using this
  have q5 := (cf_at k0).2.2.2.2.2.1
  have HB := Lib.hid b4
  have hgs4 := hgs.below b4
  have hc4 := h.below b4
  obtain ⟨b, a, hbo⟩ : ∃ b a, 0 < m → A' = some ⟨b, a, none⟩ := by
    by_cases h0 : 0 < m
    · obtain ⟨b, a, e, _⟩ := grs_at hgs hgn 0 h0
      exact ⟨b, a, fun _ => e⟩
    · exact ⟨0, 0, fun h => absurd h h0⟩
  generalize hw4 : ((((w.alloc (.cells #[.int .i64 c.fr, vp, vd, .int .i64 c.mj, vw, .slice A' m cap', .int .i64 c.se, .int .i64 c.qu, .int .i64 c.qt] 27)).alloc (.cells #[.int .i64 (o : Int)] 3)).alloc (.cells #[.int .i64 t] 3)).alloc (.cells #[.func (.func 73) #[] #[]] 109)) = w4 at *
  have hE := cf_Vg A' b a m cap' (w.heap.size + 1 + 1) (w.heap.size + 1 + 1 + 1) w.heap.size (w.heap.size + 1) (fun i => .int .i64 (c.gs.getD i grD).f) (fun i => .int .i64 (c.gs.getD i grD).t) (fun i => .bool (c.gs.getD i grD).wr) (fun i => vgB c o t false (c.gs.getD i grD)) nos
    (fun _ W => Below w4.heap.size w4 W) w4 (by unfold maxLen; omega) hbo
    (fun i W hi hI => by
      obtain ⟨b', o', e, _, q⟩ := grs_at (hgs4.below hI) hgn i hi
      rw [hbo (by omega)] at e
      simp only [Option.some.injEq, Addr.mk.injEq, and_true] at e
      obtain ⟨rfl, rfl⟩ := e
      exact q)
    (fun i W hi _ hI => by
      refine (vg1_r _ _ _ t o _ _ _ _ (hc4.below hI) ho (k2.below hI k2.lt) (k3.below hI k3.lt) (k0.below hI k0.lt) (k1.below hI k1.lt)).mono ?_
      rintro e w' ⟨rfl, hb⟩
      exact ⟨rfl, Below.down hI hb hI.size, Fo.of hb _⟩)
    (Below.refl _ _)
  have e9 : (List.range m).any (fun i => vgB c o t false (c.gs.getD i grD)) = gtB c o t false := by rw [← hgn]; exact any_range c.gs grD _
  rw [e9] at hE
  have HE := Lib.hid hE
  subst hw4
  clear hE e9 b1 b2 b3 b4 k0 k1 k2 k3 hgs4 hgs h hc4 hbo
  generalize gtB c o t false = R at *
  go_enter Tryz.func72, Tryz.ntmps72
  go_wp2_with fail
  refine HE.out.mono ?_
  rintro e w5 ⟨rfl, -, hf⟩
  have HB5 := Lib.hid (Below.down HB.out hf.nos HB.out.size)
  clear hf
  go_wp2_with fail
  go_ret
  exact ⟨rfl, HB5.out⟩
set_option maxHeartbeats 1000000 in
theorem vgrants_w {w : World} {c : Cf} {vp vd vw vg : Value} (h : CfAt w vp vd vw vg c) (o : Nat) (t : Int) (ho : o < c.ps.length) :
    Calls Tryz.prog 72 #[.agg #[.int .i64 c.fr, vp, vd, .int .i64 c.mj, vw, vg, .int .i64 c.se, .int .i64 c.qu, .int .i64 c.qt], .int .i64 o, .int .i64 t, .func (.func 74) #[] #[]] w fun e w' => e = .returned (.bool (gtB c o t true)) ∧ Below w.heap.size w w' := by
  have hgs := h.gs
  have hz := h.gz
  obtain ⟨A', cap', rfl⟩ : ∃ A' cap', vg = .slice A' c.gs.length cap' := by obtain ⟨A', c', e, _⟩ := hgs; exact ⟨A', c', e⟩
  generalize hgn : c.gs.length = m at *
  have b1 : Below w.heap.size w (w.alloc (.cells #[.int .i64 c.fr, vp, vd, .int .i64 c.mj, vw, .slice A' m cap', .int .i64 c.se, .int .i64 c.qu, .int .i64 c.qt] 27)) := (Below.refl _ _).alloc (Nat.le_refl _) _
  have b2 : Below w.heap.size w ((w.alloc (.cells #[.int .i64 c.fr, vp, vd, .int .i64 c.mj, vw, .slice A' m cap', .int .i64 c.se, .int .i64 c.qu, .int .i64 c.qt] 27)).alloc (.cells #[.int .i64 (o : Int)] 3)) := b1.alloc b1.size _
  have b3 : Below w.heap.size w (((w.alloc (.cells #[.int .i64 c.fr, vp, vd, .int .i64 c.mj, vw, .slice A' m cap', .int .i64 c.se, .int .i64 c.qu, .int .i64 c.qt] 27)).alloc (.cells #[.int .i64 (o : Int)] 3)).alloc (.cells #[.int .i64 t] 3)) := b2.alloc b2.size _
  have b4 : Below w.heap.size w ((((w.alloc (.cells #[.int .i64 c.fr, vp, vd, .int .i64 c.mj, vw, .slice A' m cap', .int .i64 c.se, .int .i64 c.qu, .int .i64 c.qt] 27)).alloc (.cells #[.int .i64 (o : Int)] 3)).alloc (.cells #[.int .i64 t] 3)).alloc (.cells #[.func (.func 74) #[] #[]] 109)) := b3.alloc b3.size _
  have k0 : Blk ((((w.alloc (.cells #[.int .i64 c.fr, vp, vd, .int .i64 c.mj, vw, .slice A' m cap', .int .i64 c.se, .int .i64 c.qu, .int .i64 c.qt] 27)).alloc (.cells #[.int .i64 (o : Int)] 3)).alloc (.cells #[.int .i64 t] 3)).alloc (.cells #[.func (.func 74) #[] #[]] 109)) w.heap.size 27 (cfc c vp vd vw (.slice A' m cap')) := (((Blk.new w _ (cfc c vp vd vw (.slice A' m cap'))).alloc _).alloc _).alloc _
  have k1 : Blk ((((w.alloc (.cells #[.int .i64 c.fr, vp, vd, .int .i64 c.mj, vw, .slice A' m cap', .int .i64 c.se, .int .i64 c.qu, .int .i64 c.qt] 27)).alloc (.cells #[.int .i64 (o : Int)] 3)).alloc (.cells #[.int .i64 t] 3)).alloc (.cells #[.func (.func 74) #[] #[]] 109)) (w.heap.size + 1) 3 [.int .i64 (o : Int)] := by
    have := ((Blk.new (w.alloc (.cells #[.int .i64 c.fr, vp, vd, .int .i64 c.mj, vw, .slice A' m cap', .int .i64 c.se, .int .i64 c.qu, .int .i64 c.qt] 27)) 3 [.int .i64 (o : Int)]).alloc (.cells #[.int .i64 t] 3)).alloc (.cells #[.func (.func 74) #[] #[]] 109)
    simpa using this
  have k2 : Blk ((((w.alloc (.cells #[.int .i64 c.fr, vp, vd, .int .i64 c.mj, vw, .slice A' m cap', .int .i64 c.se, .int .i64 c.qu, .int .i64 c.qt] 27)).alloc (.cells #[.int .i64 (o : Int)] 3)).alloc (.cells #[.int .i64 t] 3)).alloc (.cells #[.func (.func 74) #[] #[]] 109)) (w.heap.size + 1 + 1) 3 [.int .i64 t] := by
    have := (Blk.new ((w.alloc (.cells #[.int .i64 c.fr, vp, vd, .int .i64 c.mj, vw, .slice A' m cap', .int .i64 c.se, .int .i64 c.qu, .int .i64 c.qt] 27)).alloc (.cells #[.int .i64 (o : Int)] 3)) 3 [.int .i64 t]).alloc (.cells #[.func (.func 74) #[] #[]] 109)
    simpa using this
  have k3 : Blk ((((w.alloc (.cells #[.int .i64 c.fr, vp, vd, .int .i64 c.mj, vw, .slice A' m cap', .int .i64 c.se, .int .i64 c.qu, .int .i64 c.qt] 27)).alloc (.cells #[.int .i64 (o : Int)] 3)).alloc (.cells #[.int .i64 t] 3)).alloc (.cells #[.func (.func 74) #[] #[]] 109)) (w.heap.size + 1 + 1 + 1) 109 [.func (.func 74) #[] #[]] := by
    have := Blk.new (((w.alloc (.cells #[.int .i64 c.fr, vp, vd, .int .i64 c.mj, vw, .slice A' m cap', .int .i64 c.se, .int .i64 c.qu, .int .i64 c.qt] 27)).alloc (.cells #[.int .i64 (o : Int)] 3)).alloc (.cells #[.int .i64 t] 3)) 109 [.func (.func 74) #[] #[]]
    simpa using this
  have q5 := (cf_at k0).2.2.2.2.2.1
  have HB := Lib.hid b4
  have hgs4 := hgs.below b4
  have hc4 := h.below b4
  obtain ⟨b, a, hbo⟩ : ∃ b a, 0 < m → A' = some ⟨b, a, none⟩ := by
    by_cases h0 : 0 < m
    · obtain ⟨b, a, e, _⟩ := grs_at hgs hgn 0 h0
      exact ⟨b, a, fun _ => e⟩
    · exact ⟨0, 0, fun h => absurd h h0⟩
  generalize hw4 : ((((w.alloc (.cells #[.int .i64 c.fr, vp, vd, .int .i64 c.mj, vw, .slice A' m cap', .int .i64 c.se, .int .i64 c.qu, .int .i64 c.qt] 27)).alloc (.cells #[.int .i64 (o : Int)] 3)).alloc (.cells #[.int .i64 t] 3)).alloc (.cells #[.func (.func 74) #[] #[]] 109)) = w4 at *
  have hE := cf_Vg A' b a m cap' (w.heap.size + 1 + 1) (w.heap.size + 1 + 1 + 1) w.heap.size (w.heap.size + 1) (fun i => .int .i64 (c.gs.getD i grD).f) (fun i => .int .i64 (c.gs.getD i grD).t) (fun i => .bool (c.gs.getD i grD).wr) (fun i => vgB c o t true (c.gs.getD i grD)) nos
    (fun _ W => Below w4.heap.size w4 W) w4 (by unfold maxLen; omega) hbo
    (fun i W hi hI => by
      obtain ⟨b', o', e, _, q⟩ := grs_at (hgs4.below hI) hgn i hi
      rw [hbo (by omega)] at e
      simp only [Option.some.injEq, Addr.mk.injEq, and_true] at e
      obtain ⟨rfl, rfl⟩ := e
      exact q)
    (fun i W hi _ hI => by
      refine (vg1_w _ _ _ t o _ _ _ _ (hc4.below hI) ho (k2.below hI k2.lt) (k3.below hI k3.lt) (k0.below hI k0.lt) (k1.below hI k1.lt)).mono ?_
      rintro e w' ⟨rfl, hb⟩
      exact ⟨rfl, Below.down hI hb hI.size, Fo.of hb _⟩)
    (Below.refl _ _)
  have e9 : (List.range m).any (fun i => vgB c o t true (c.gs.getD i grD)) = gtB c o t true := by rw [← hgn]; exact any_range c.gs grD _
  rw [e9] at hE
  have HE := Lib.hid hE
  subst hw4
  clear hE e9 b1 b2 b3 b4 k0 k1 k2 k3 hgs4 hgs h hc4 hbo
  generalize gtB c o t true = R at *
  go_enter Tryz.func72, Tryz.ntmps72
  go_wp2_with fail
  refine HE.out.mono ?_
  rintro e w5 ⟨rfl, -, hf⟩
  have HB5 := Lib.hid (Below.down HB.out hf.nos HB.out.size)
  clear hf
  go_wp2_with fail
  go_ret
  exact ⟨rfl, HB5.out⟩
end Go.Proofs.YtkaalinoiilmoaaGreat
