/-
  What the proofs lean on: contracts of the program's functions, plain facts.
-/
import Derived.StillTailTactics
import Derived.Test.YtkaalinoiilmoaaFlowOrderW2
import Derived.Laws.EntriesVeiled
import Derived.Deep.AppendLies
namespace Go.Proofs.Ytkaalinoiilmoaa
open Go.RowKit
set_option linter.unusedVariables false
set_option linter.unusedSimpArgs false
set_option maxRecDepth 100000
theorem vhaspart_any {w : World} {c : Cf} {vp vd vw vg : Value} (h : CfAt w vp vd vw vg c) (p : Int) :
    Calls Try.prog 17 #[.agg #[.int .i64 c.fr, vp, vd, .int .i64 c.mj, vw, vg, .int .i64 c.se, .int .i64 c.qu, .int .i64 c.qt], .int .i64 p] w fun e w' => e = .returned (.bool (inP c.ps.length p)) ∧ Below w.heap.size w w' := by
  obtain ⟨A, cap, rfl, _⟩ := h.ps
  obtain ⟨hb, hB⟩ := cf_box w c (.slice A c.ps.length cap) vd vw vg
  have hn : c.ps.length ≤ 9223372036854775807 := by have := h.pz.1; omega
  obtain ⟨-, k1, -⟩ := cf_at hb
  have HB := Lib.hid hB
  clear h hb hB
  generalize c.ps.length = n at *
  by_cases h0 : 0 ≤ p
  · by_cases h1 : p < (n : Int)
    · have HR := Lib.hid (show inP n p = true from decide_eq_true ⟨h0, h1⟩)
      have hd : decide (p < (n : Int)) = true := decide_eq_true h1
      clear h1
      go_enter Try.func17, Try.ntmps17
      go_wp2
      go_ret
      exact ⟨by rw [HR.out]; rfl, HB.out⟩
    · have HR := Lib.hid (show inP n p = false from decide_eq_false (fun h => h1 h.2))
      have hd : decide (p < (n : Int)) = false := decide_eq_false h1
      clear h1
      go_enter Try.func17, Try.ntmps17
      go_wp2
      go_ret
      exact ⟨by rw [HR.out]; rfl, HB.out⟩
  · have HR := Lib.hid (show inP n p = false from decide_eq_false (fun h => h0 h.1))
    have h2 : p < 0 := by omega
    clear h0
    go_enter Try.func17, Try.ntmps17
    go_wp2
    go_ret
    exact ⟨by rw [HR.out]; rfl, HB.out⟩
structure VgS (w1 : World) (c : Cf) (vp vd vw vg fv sv : Value) (z y0 y1 y2 y3 pb pa : Nat) (xf xt : Int) (xw : Bool) (t : Int) (o : Nat) (l : List Int) (w' : World) : Prop where
  zb : Blk w' z 50 [.int .i64 xf, .int .i64 xt, .bool xw]
  b0 : Blk w' y0 3 [.int .i64 t]
  b1 : Blk w' y1 81 [fv]
  b2 : Blk w' y2 27 (cfc c vp vd vw vg)
  b3 : Blk w' y3 3 [.int .i64 o]
  row : w'.cell? ⟨pb, pa + o * 5 + 2, none⟩ = some sv
  rlt : pb < w'.heap.size
  fs : Sl w' sv l.length 1 (ints l)
  below : Below w1.heap.size w1 w'
section
variable {w1 w' w2 : World} {c : Cf} {vp vd vw vg fv sv : Value} {z y0 y1 y2 y3 pb pa : Nat} {xf xt t : Int} {xw : Bool} {o : Nat} {l : List Int}
theorem VgS.next (h : VgS w1 c vp vd vw vg fv sv z y0 y1 y2 y3 pb pa xf xt xw t o l w') (hb : Below w'.heap.size w' w2) : VgS w1 c vp vd vw vg fv sv z y0 y1 y2 y3 pb pa xf xt xw t o l w2 :=
  ⟨h.zb.below hb h.zb.lt, h.b0.below hb h.b0.lt, h.b1.below hb h.b1.lt, h.b2.below hb h.b2.lt, h.b3.below hb h.b3.lt, (hb.cell (p := ⟨pb, pa + o * 5 + 2, none⟩) h.rlt).trans h.row, Nat.lt_of_lt_of_le h.rlt hb.size, h.fs.below hb, Below.down h.below hb h.below.size⟩
theorem VgS.drew (h : VgS w1 c vp vd vw vg fv sv z y0 y1 y2 y3 pb pa xf xt xw t o l w') : VgS w1 c vp vd vw vg fv sv z y0 y1 y2 y3 pb pa xf xt xw t o l w'.drew := h.next (bdrewN (Below.refl _ _) 1)
theorem VgS.all (h : VgS w1 c vp vd vw vg fv sv z y0 y1 y2 y3 pb pa xf xt xw t o l w') :
    w'.cell? ⟨z, 0, none⟩ = some (.int .i64 xf) ∧ w'.cell? ⟨z, 1, none⟩ = some (.int .i64 xt) ∧ w'.cell? ⟨z, 2, none⟩ = some (.bool xw) ∧ w'.cell? ⟨y0, 0, none⟩ = some (.int .i64 t) ∧ w'.cell? ⟨y1, 0, none⟩ = some fv ∧ w'.cell? ⟨y2, 1, none⟩ = some vp ∧ w'.cell? ⟨y3, 0, none⟩ = some (.int .i64 o) ∧ w'.cell? ⟨pb, pa + o * 5 + 2, none⟩ = some sv ∧ VgS w1 c vp vd vw vg fv sv z y0 y1 y2 y3 pb pa xf xt xw t o l w' :=
  ⟨(h.zb.cell 0).trans rfl, (h.zb.cell 1).trans rfl, (h.zb.cell 2).trans rfl, (h.b0.cell 0).trans rfl, (h.b1.cell 0).trans rfl, (h.b2.cell 1).trans rfl, (h.b3.cell 0).trans rfl, h.row, h⟩
end
theorem vcnt_r (xf xt : Int) (xw : Bool) (w : World) : Calls Try.prog 44 #[.agg #[.int .i64 xf, .int .i64 xt, .bool xw]] w fun e w' => e = .returned (.bool (xw || !false)) ∧ Below w.heap.size w w' := by
  have hb : Blk (w.alloc (.cells #[.int .i64 xf, .int .i64 xt, .bool xw] 50)) w.heap.size 50 [.int .i64 xf, .int .i64 xt, .bool xw] := Blk.new _ _ _
  have k2 := hb.cell 2
  simp only [List.getElem?_cons_zero, List.getElem?_cons_succ] at k2
  clear hb
  cases xw
  all_goals
    go_enter Try.func44, Try.ntmps44
    go_wp2
    go_ret
    exact ⟨rfl, (Below.refl _ _).alloc (Nat.le_refl _) _⟩
set_option maxHeartbeats 1000000 in
theorem vg1_r {w : World} {c : Cf} {vp vd vw vg : Value} (xf xt : Int) (xw : Bool) (t : Int) (o : Nat) (y0 y1 y2 y3 : Nat) (hc : CfAt w vp vd vw vg c) (ho : o < c.ps.length) (h0 : Blk w y0 3 [.int .i64 t]) (h1 : Blk w y1 81 [.func (.func 44) #[] #[]]) (h2 : Blk w y2 27 (cfc c vp vd vw vg)) (h3 : Blk w y3 3 [.int .i64 o]) :
    Calls Try.prog 67 #[.agg #[.int .i64 xf, .int .i64 xt, .bool xw], .pointer (some ⟨y0, 0, none⟩), .pointer (some ⟨y1, 0, none⟩), .pointer (some ⟨y2, 0, none⟩), .pointer (some ⟨y3, 0, none⟩)] w fun e w' => e = .returned (.bool (vgB c o t false ⟨xf, xt, xw⟩)) ∧ Below w.heap.size w w' := by
  obtain ⟨A, cap, pb, pa, sv, rfl, hA, hr⟩ := hc.ps.rows
  obtain ⟨rfl, hpb⟩ := hA (by omega)
  obtain ⟨⟨-, -, r2, -, -⟩, hfs⟩ := hr o ho
  generalize sv o = s9 at *
  have hps := hc.pz.1
  have hpf := hc.pz.2 o
  have hB : Below w.heap.size w (w.alloc (.cells #[.int .i64 xf, .int .i64 xt, .bool xw] 50)) := (Below.refl _ _).alloc (Nat.le_refl _) _
  have hzb : Blk (w.alloc (.cells #[.int .i64 xf, .int .i64 xt, .bool xw] 50)) w.heap.size 50 [.int .i64 xf, .int .i64 xt, .bool xw] := Blk.new _ _ _
  have hS : VgS (w.alloc (.cells #[.int .i64 xf, .int .i64 xt, .bool xw] 50)) c (.slice (some ⟨pb, pa, none⟩) c.ps.length cap) vd vw vg (.func (.func 44) #[] #[]) s9 w.heap.size y0 y1 y2 y3 pb pa xf xt xw t o (c.ps.getD o paD).fr (w.alloc (.cells #[.int .i64 xf, .int .i64 xt, .bool xw] 50)) :=
    ⟨hzb, h0.below hB h0.lt, h1.below hB h1.lt, h2.below hB h2.lt, h3.below hB h3.lt, (hB.cell (p := ⟨pb, pa + o * 5 + 2, none⟩) hpb).trans r2, Nat.lt_of_lt_of_le hpb hB.size, hfs.below hB, Below.refl _ _⟩
  obtain ⟨A2, c2, rfl, -⟩ := hfs
  have HB := Lib.hid hB; have HC := Lib.hid (vcnt_r xf xt xw)
  obtain ⟨Q, hQ⟩ : ∃ Q, vgB c o t false ⟨xf, xt, xw⟩ = Q := ⟨_, rfl⟩
  rw [hQ]
  unfold vgB at hQ
  simp only [Int.toNat_natCast] at hQ
  have HQ := Lib.hid hQ
  clear hQ hB hzb h0 h1 h2 h3 r2 hr hA hc
  generalize (c.ps.getD o paD).fr = l at *
  generalize hl : l.length = n2 at *
  have HN := Lib.hid hl
  clear hl
  generalize c.ps.length = n at *
  have hoi : (o : Int) < (n : Int) := by omega
  by_cases ht : xt = t
  · by_cases hc : (xw || !false) = true
    · have HW := Lib.hid hc
      have HQ9 := Lib.hid (show Q = memI l xf by rw [← HQ.out, hc, decide_eq_true ht]; simp)
      subst ht
      clear hc
      go_enter Try.func67, Try.ntmps67
      go_wp2_with fail
      generalize w.alloc (.cells #[.int .i64 xf, .int .i64 xt, .bool xw] 50) = w1 at *
      generalize hz : w.heap.size = z at *
      refine wp_region_held_drew (S := (fun w' => w'.cell? ⟨z, 0, none⟩ = some (.int .i64 xf) ∧ w'.cell? ⟨z, 1, none⟩ = some (.int .i64 xt) ∧ w'.cell? ⟨z, 2, none⟩ = some (.bool xw) ∧ w'.cell? ⟨y0, 0, none⟩ = some (.int .i64 xt) ∧ w'.cell? ⟨y1, 0, none⟩ = some (.func (.func 44) #[] #[]) ∧ w'.cell? ⟨y2, 1, none⟩ = some (.slice (some ⟨pb, pa, none⟩) n cap) ∧ w'.cell? ⟨y3, 0, none⟩ = some (.int .i64 (o : Int)) ∧ w'.cell? ⟨pb, pa + o * 5 + 2, none⟩ = some (.slice A2 n2 c2) ∧ VgS w1 c (.slice (some ⟨pb, pa, none⟩) n cap) vd vw vg (.func (.func 44) #[] #[]) (.slice A2 n2 c2) z y0 y1 y2 y3 pb pa xf xt xw xt o l w')) (by kernel_rfl) ?_ (fun hHeld => ?_)
      · try dsimp only
        (go_split_ands; refine VgS.all ?_; (first | with_reducible assumption | with_reducible exact VgS.drew (by assumption) | with_reducible exact VgS.next (by assumption) (by assumption)))
      refine wpAnyH_take (i := 0) (v := ?v0zC) rfl (by kernel_rfl) (by kernel_rfl) (by kernel_rfl) (fun _ _ _ h => h) (Or.inl ⟨by rfl, ?hy0zC⟩) (by assumption) ?rest0zC
      case hy0zC => intro w hSw; (try dsimp only at hSw); first | (go_simp; done) | (go_simp; with_reducible rfl)
      try simp only [Act.put, List.getElem_toArray, List.getElem_cons_succ, List.getElem_cons_zero, List.setIfInBounds_toArray, List.set_cons_zero, List.set_cons_succ]
      refine wpAnyH_take (i := 1) (v := ?v1zC) rfl (by kernel_rfl) (by kernel_rfl) (by kernel_rfl) (fun _ _ _ h => h) (Or.inl ⟨by rfl, ?hy1zC⟩) (by assumption) ?rest1zC
      case hy1zC => intro w hSw; (try dsimp only at hSw); first | (go_simp; done) | (go_simp; with_reducible rfl)
      try simp only [Act.put, List.getElem_toArray, List.getElem_cons_succ, List.getElem_cons_zero, List.setIfInBounds_toArray, List.set_cons_zero, List.set_cons_succ]
      refine wpAnyH_take (i := 2) (v := ?v2zC) rfl (by kernel_rfl) (by kernel_rfl) (by kernel_rfl) (fun _ _ _ h => h) (Or.inl ⟨by rfl, ?hy2zC⟩) (by assumption) ?rest2zC
      case hy2zC => intro w hSw; (try dsimp only at hSw); first | (go_simp; done) | (go_simp; with_reducible rfl)
      try simp only [Act.put, List.getElem_toArray, List.getElem_cons_succ, List.getElem_cons_zero, List.setIfInBounds_toArray, List.set_cons_zero, List.set_cons_succ]
      refine wpAnyH_take (i := 3) (v := ?v3zC) rfl (by kernel_rfl) (by kernel_rfl) (by kernel_rfl) (fun _ _ _ h => h) (Or.inl ⟨by rfl, ?hy3zC⟩) (by assumption) ?rest3zC
      case hy3zC => intro w hSw; (try dsimp only at hSw); first | (go_simp; done) | (go_simp; with_reducible rfl)
      try simp only [Act.put, List.getElem_toArray, List.getElem_cons_succ, List.getElem_cons_zero, List.setIfInBounds_toArray, List.set_cons_zero, List.set_cons_succ]
      refine wpAnyH_take (i := 4) (v := ?v4zC) rfl (by kernel_rfl) (by kernel_rfl) (by kernel_rfl) (fun _ _ _ h => h) (Or.inl ⟨by rfl, ?hy4zC⟩) (by assumption) ?rest4zC
      case hy4zC => intro w hSw; (try dsimp only at hSw); first | (go_simp; done) | (go_simp; with_reducible rfl)
      try simp only [Act.put, List.getElem_toArray, List.getElem_cons_succ, List.getElem_cons_zero, List.setIfInBounds_toArray, List.set_cons_zero, List.set_cons_succ]
      refine wpAnyH_take (i := 5) (v := ?v5zC) rfl (by kernel_rfl) (by kernel_rfl) (by kernel_rfl) (fun _ _ _ h => h) (Or.inl ⟨by rfl, ?hy5zC⟩) (by assumption) ?rest5zC
      case hy5zC => intro w hSw; (try dsimp only at hSw); first | (go_simp; done) | (go_simp; with_reducible rfl)
      try simp only [Act.put, List.getElem_toArray, List.getElem_cons_succ, List.getElem_cons_zero, List.setIfInBounds_toArray, List.set_cons_zero, List.set_cons_succ]
      refine wpAnyH_take (i := 6) (v := ?v6zC) rfl (by kernel_rfl) (by kernel_rfl) (by kernel_rfl) (fun _ _ _ h => h) (Or.inl ⟨by rfl, ?hy6zC⟩) (by assumption) ?rest6zC
      case hy6zC => intro w hSw; (try dsimp only at hSw); first | (go_simp; done) | (go_simp; with_reducible rfl)
      try simp only [Act.put, List.getElem_toArray, List.getElem_cons_succ, List.getElem_cons_zero, List.setIfInBounds_toArray, List.set_cons_zero, List.set_cons_succ]
      refine wpAnyH_ready (rs := [7]) (by kernel_rfl) (by simp) ?_
      refine AllReadyH.cons rfl (fun K hK => ?_) AllReadyH.nil
      go_simp
      refine (HC.out _).mono ?_
      rintro e w5 ⟨rfl, hb5⟩
      rw [HW.out]
      go_wp2_with fail
      refine hK.out _ _ ?_ (fun hHeld2 => ?_)
      · try dsimp only
        (go_split_ands; refine VgS.all ?_; (first | with_reducible assumption | with_reducible exact VgS.drew (by assumption) | with_reducible exact VgS.next (by assumption) (by assumption)))
      clear hK K hHeld
      have hHeld := hHeld2; clear hHeld2
      try simp only [Act.put, List.getElem_toArray, List.getElem_cons_succ, List.getElem_cons_zero, List.setIfInBounds_toArray, List.set_cons_zero, List.set_cons_succ]
      refine wpAnyH_take (i := 8) (v := ?v8zC) rfl (by kernel_rfl) (by kernel_rfl) (by kernel_rfl) (fun _ _ _ h => h) (Or.inl ⟨by rfl, ?hy8zC⟩) (by assumption) ?rest8zC
      case hy8zC => intro w hSw; (try dsimp only at hSw); first | (go_simp; done) | (go_simp; with_reducible rfl)
      try simp only [Act.put, List.getElem_toArray, List.getElem_cons_succ, List.getElem_cons_zero, List.setIfInBounds_toArray, List.set_cons_zero, List.set_cons_succ]
      refine wpAnyH_take (i := 9) (v := ?v9zC) rfl (by kernel_rfl) (by kernel_rfl) (by kernel_rfl) (fun _ _ _ h => h) (Or.inl ⟨by rfl, ?hy9zC⟩) (by assumption) ?rest9zC
      case hy9zC => intro w hSw; (try dsimp only at hSw); first | (go_simp; done) | (go_simp; with_reducible rfl)
      try simp only [Act.put, List.getElem_toArray, List.getElem_cons_succ, List.getElem_cons_zero, List.setIfInBounds_toArray, List.set_cons_zero, List.set_cons_succ]
      refine wpAnyH_take (i := 10) (v := ?v10zC) rfl (by kernel_rfl) (by kernel_rfl) (by kernel_rfl) (fun _ _ _ h => h) (Or.inl ⟨by rfl, ?hy10zC⟩) (by assumption) ?rest10zC
      case hy10zC => intro w hSw; (try dsimp only at hSw); first | (go_simp; done) | (go_simp; with_reducible rfl)
      try simp only [Act.put, List.getElem_toArray, List.getElem_cons_succ, List.getElem_cons_zero, List.setIfInBounds_toArray, List.set_cons_zero, List.set_cons_succ]
      refine wpAnyH_take (i := 11) (v := ?v11zC) rfl (by kernel_rfl) (by kernel_rfl) (by kernel_rfl) (fun _ _ _ h => h) (Or.inl ⟨by rfl, ?hy11zC⟩) (by assumption) ?rest11zC
      case hy11zC => intro w hSw; (try dsimp only at hSw); first | (go_simp; done) | (go_simp; with_reducible rfl)
      try simp only [Act.put, List.getElem_toArray, List.getElem_cons_succ, List.getElem_cons_zero, List.setIfInBounds_toArray, List.set_cons_zero, List.set_cons_succ]
      refine wpAnyH_take (i := 12) (v := ?v12zC) rfl (by kernel_rfl) (by kernel_rfl) (by kernel_rfl) (fun _ _ _ h => h) (Or.inl ⟨by rfl, ?hy12zC⟩) (by assumption) ?rest12zC
      case hy12zC => intro w hSw; (try dsimp only at hSw); first | (go_simp; done) | (go_simp; with_reducible rfl)
      try simp only [Act.put, List.getElem_toArray, List.getElem_cons_succ, List.getElem_cons_zero, List.setIfInBounds_toArray, List.set_cons_zero, List.set_cons_succ]
      refine wpAnyH_take (i := 13) (v := ?v13zC) rfl (by kernel_rfl) (by kernel_rfl) (by kernel_rfl) (fun _ _ _ h => h) (Or.inl ⟨by rfl, ?hy13zC⟩) (by assumption) ?rest13zC
      case hy13zC => intro w hSw; (try dsimp only at hSw); first | (go_simp; done) | (go_simp; with_reducible rfl)
      try simp only [Act.put, List.getElem_toArray, List.getElem_cons_succ, List.getElem_cons_zero, List.setIfInBounds_toArray, List.set_cons_zero, List.set_cons_succ]
      refine wpAnyH_take (i := 14) (v := ?v14zC) rfl (by kernel_rfl) (by kernel_rfl) (by kernel_rfl) (fun _ _ _ h => h) (Or.inl ⟨by rfl, ?hy14zC⟩) (by assumption) ?rest14zC
      case hy14zC => intro w hSw; (try dsimp only at hSw); first | (go_simp; done) | (go_simp; with_reducible rfl)
      try simp only [Act.put, List.getElem_toArray, List.getElem_cons_succ, List.getElem_cons_zero, List.setIfInBounds_toArray, List.set_cons_zero, List.set_cons_succ]
      refine wpAnyH_take (i := 15) (v := ?v15zC) rfl (by kernel_rfl) (by kernel_rfl) (by kernel_rfl) (fun _ _ _ h => h) (Or.inl ⟨by rfl, ?hy15zC⟩) (by assumption) ?rest15zC
      case hy15zC => intro w hSw; (try dsimp only at hSw); first | (go_simp; done) | (go_simp; with_reducible rfl)
      try simp only [Act.put, List.getElem_toArray, List.getElem_cons_succ, List.getElem_cons_zero, List.setIfInBounds_toArray, List.set_cons_zero, List.set_cons_succ]
      refine wpAnyH_take (i := 16) (v := ?v16zC) rfl (by kernel_rfl) (by kernel_rfl) (by kernel_rfl) (fun _ _ _ h => h) (Or.inl ⟨by rfl, ?hy16zC⟩) (by assumption) ?rest16zC
      case hy16zC => intro w hSw; (try dsimp only at hSw); first | (go_simp; done) | (go_simp; with_reducible rfl)
      try simp only [Act.put, List.getElem_toArray, List.getElem_cons_succ, List.getElem_cons_zero, List.setIfInBounds_toArray, List.set_cons_zero, List.set_cons_succ]
      refine wpAnyH_take (i := 17) (v := ?v17zC) rfl (by kernel_rfl) (by kernel_rfl) (by kernel_rfl) (fun _ _ _ h => h) (Or.inl ⟨by rfl, ?hy17zC⟩) (by assumption) ?rest17zC
      case hy17zC => intro w hSw; (try dsimp only at hSw); first | (go_simp; done) | (go_simp; with_reducible rfl)
      try simp only [Act.put, List.getElem_toArray, List.getElem_cons_succ, List.getElem_cons_zero, List.setIfInBounds_toArray, List.set_cons_zero, List.set_cons_succ]
      refine wpAnyH_ready (rs := [18]) (by kernel_rfl) (by simp) ?_
      refine AllReadyH.cons rfl (fun K hK => ?_) AllReadyH.nil
      go_simp
      refine (contains_any _ l xf _ hHeld.2.2.2.2.2.2.2.2.fs (by rw [HN.out]; unfold maxLen; omega)).mono ?_
      rintro e w6 ⟨rfl, rfl⟩
      go_wp2_with fail
      refine hK.out _ _ ?_ (fun hHeld2 => ?_)
      · try dsimp only
        (go_split_ands; refine VgS.all ?_; (first | with_reducible assumption | with_reducible exact VgS.drew (by assumption) | with_reducible exact VgS.next (by assumption) (by assumption)))
      clear hK K hHeld
      have hHeld := hHeld2; clear hHeld2
      try simp only [Act.put, List.getElem_toArray, List.getElem_cons_succ, List.getElem_cons_zero, List.setIfInBounds_toArray, List.set_cons_zero, List.set_cons_succ]
      refine wpAnyH_take (i := 19) (v := ?v19zC) rfl (by kernel_rfl) (by kernel_rfl) (by kernel_rfl) (fun _ _ _ h => h) (Or.inl ⟨by rfl, ?hy19zC⟩) (by assumption) ?rest19zC
      case hy19zC => intro w hSw; (try dsimp only at hSw); first | (go_simp; done) | (go_simp; with_reducible rfl)
      try simp only [Act.put, List.getElem_toArray, List.getElem_cons_succ, List.getElem_cons_zero, List.setIfInBounds_toArray, List.set_cons_zero, List.set_cons_succ]
      refine wpAnyH_take (i := 20) (v := ?v20zC) rfl (by kernel_rfl) (by kernel_rfl) (by kernel_rfl) (fun _ _ _ h => h) (Or.inl ⟨by rfl, ?hy20zC⟩) (by assumption) ?rest20zC
      case hy20zC => intro w hSw; (try dsimp only at hSw); first | (go_simp; done) | (go_simp; with_reducible rfl)
      try simp only [Act.put, List.getElem_toArray, List.getElem_cons_succ, List.getElem_cons_zero, List.setIfInBounds_toArray, List.set_cons_zero, List.set_cons_succ]
      refine wpAnyH_done (by kernel_rfl) ?_ _
      all_goals
        have HS9 := Lib.hid hHeld.2.2.2.2.2.2.2.2.below
        clear hHeld
        go_wp2_with fail
        go_ret
        exact ⟨by rw [HQ9.out]; rfl, by rw [hz]; exact Below.down HB.out HS9.out (by have := HB.out.size; omega)⟩
    · have HW := Lib.hid (show (xw || !false) = false from Bool.eq_false_iff.2 hc)
      have HQ9 := Lib.hid (show Q = false by rw [← HQ.out, HW.out]; simp)
      subst ht
      clear hc
      go_enter Try.func67, Try.ntmps67
      go_wp2_with fail
      generalize w.alloc (.cells #[.int .i64 xf, .int .i64 xt, .bool xw] 50) = w1 at *
      generalize hz : w.heap.size = z at *
      refine wp_region_held_drew (S := (fun w' => w'.cell? ⟨z, 0, none⟩ = some (.int .i64 xf) ∧ w'.cell? ⟨z, 1, none⟩ = some (.int .i64 xt) ∧ w'.cell? ⟨z, 2, none⟩ = some (.bool xw) ∧ w'.cell? ⟨y0, 0, none⟩ = some (.int .i64 xt) ∧ w'.cell? ⟨y1, 0, none⟩ = some (.func (.func 44) #[] #[]) ∧ w'.cell? ⟨y2, 1, none⟩ = some (.slice (some ⟨pb, pa, none⟩) n cap) ∧ w'.cell? ⟨y3, 0, none⟩ = some (.int .i64 (o : Int)) ∧ w'.cell? ⟨pb, pa + o * 5 + 2, none⟩ = some (.slice A2 n2 c2) ∧ VgS w1 c (.slice (some ⟨pb, pa, none⟩) n cap) vd vw vg (.func (.func 44) #[] #[]) (.slice A2 n2 c2) z y0 y1 y2 y3 pb pa xf xt xw xt o l w')) (by kernel_rfl) ?_ (fun hHeld => ?_)
      · try dsimp only
        (go_split_ands; refine VgS.all ?_; (first | with_reducible assumption | with_reducible exact VgS.drew (by assumption) | with_reducible exact VgS.next (by assumption) (by assumption)))
      refine wpAnyH_take (i := 0) (v := ?v0zB) rfl (by kernel_rfl) (by kernel_rfl) (by kernel_rfl) (fun _ _ _ h => h) (Or.inl ⟨by rfl, ?hy0zB⟩) (by assumption) ?rest0zB
      case hy0zB => intro w hSw; (try dsimp only at hSw); first | (go_simp; done) | (go_simp; with_reducible rfl)
      try simp only [Act.put, List.getElem_toArray, List.getElem_cons_succ, List.getElem_cons_zero, List.setIfInBounds_toArray, List.set_cons_zero, List.set_cons_succ]
      refine wpAnyH_take (i := 1) (v := ?v1zB) rfl (by kernel_rfl) (by kernel_rfl) (by kernel_rfl) (fun _ _ _ h => h) (Or.inl ⟨by rfl, ?hy1zB⟩) (by assumption) ?rest1zB
      case hy1zB => intro w hSw; (try dsimp only at hSw); first | (go_simp; done) | (go_simp; with_reducible rfl)
      try simp only [Act.put, List.getElem_toArray, List.getElem_cons_succ, List.getElem_cons_zero, List.setIfInBounds_toArray, List.set_cons_zero, List.set_cons_succ]
      refine wpAnyH_take (i := 2) (v := ?v2zB) rfl (by kernel_rfl) (by kernel_rfl) (by kernel_rfl) (fun _ _ _ h => h) (Or.inl ⟨by rfl, ?hy2zB⟩) (by assumption) ?rest2zB
      case hy2zB => intro w hSw; (try dsimp only at hSw); first | (go_simp; done) | (go_simp; with_reducible rfl)
      try simp only [Act.put, List.getElem_toArray, List.getElem_cons_succ, List.getElem_cons_zero, List.setIfInBounds_toArray, List.set_cons_zero, List.set_cons_succ]
      refine wpAnyH_take (i := 3) (v := ?v3zB) rfl (by kernel_rfl) (by kernel_rfl) (by kernel_rfl) (fun _ _ _ h => h) (Or.inl ⟨by rfl, ?hy3zB⟩) (by assumption) ?rest3zB
      case hy3zB => intro w hSw; (try dsimp only at hSw); first | (go_simp; done) | (go_simp; with_reducible rfl)
      try simp only [Act.put, List.getElem_toArray, List.getElem_cons_succ, List.getElem_cons_zero, List.setIfInBounds_toArray, List.set_cons_zero, List.set_cons_succ]
      refine wpAnyH_take (i := 4) (v := ?v4zB) rfl (by kernel_rfl) (by kernel_rfl) (by kernel_rfl) (fun _ _ _ h => h) (Or.inl ⟨by rfl, ?hy4zB⟩) (by assumption) ?rest4zB
      case hy4zB => intro w hSw; (try dsimp only at hSw); first | (go_simp; done) | (go_simp; with_reducible rfl)
      try simp only [Act.put, List.getElem_toArray, List.getElem_cons_succ, List.getElem_cons_zero, List.setIfInBounds_toArray, List.set_cons_zero, List.set_cons_succ]
      refine wpAnyH_take (i := 5) (v := ?v5zB) rfl (by kernel_rfl) (by kernel_rfl) (by kernel_rfl) (fun _ _ _ h => h) (Or.inl ⟨by rfl, ?hy5zB⟩) (by assumption) ?rest5zB
      case hy5zB => intro w hSw; (try dsimp only at hSw); first | (go_simp; done) | (go_simp; with_reducible rfl)
      try simp only [Act.put, List.getElem_toArray, List.getElem_cons_succ, List.getElem_cons_zero, List.setIfInBounds_toArray, List.set_cons_zero, List.set_cons_succ]
      refine wpAnyH_take (i := 6) (v := ?v6zB) rfl (by kernel_rfl) (by kernel_rfl) (by kernel_rfl) (fun _ _ _ h => h) (Or.inl ⟨by rfl, ?hy6zB⟩) (by assumption) ?rest6zB
      case hy6zB => intro w hSw; (try dsimp only at hSw); first | (go_simp; done) | (go_simp; with_reducible rfl)
      try simp only [Act.put, List.getElem_toArray, List.getElem_cons_succ, List.getElem_cons_zero, List.setIfInBounds_toArray, List.set_cons_zero, List.set_cons_succ]
      refine wpAnyH_ready (rs := [7]) (by kernel_rfl) (by simp) ?_
      refine AllReadyH.cons rfl (fun K hK => ?_) AllReadyH.nil
      go_simp
      refine (HC.out _).mono ?_
      rintro e w5 ⟨rfl, hb5⟩
      rw [HW.out]
      go_wp2_with fail
      refine hK.out _ _ ?_ (fun hHeld2 => ?_)
      · try dsimp only
        (go_split_ands; refine VgS.all ?_; (first | with_reducible assumption | with_reducible exact VgS.drew (by assumption) | with_reducible exact VgS.next (by assumption) (by assumption)))
      clear hK K hHeld
      have hHeld := hHeld2; clear hHeld2
      try simp only [Act.put, List.getElem_toArray, List.getElem_cons_succ, List.getElem_cons_zero, List.setIfInBounds_toArray, List.set_cons_zero, List.set_cons_succ]
      refine wpAnyH_take (i := 8) (v := ?v8zB) rfl (by kernel_rfl) (by kernel_rfl) (by kernel_rfl) (fun _ _ _ h => h) (Or.inl ⟨by rfl, ?hy8zB⟩) (by assumption) ?rest8zB
      case hy8zB => intro w hSw; (try dsimp only at hSw); first | (go_simp; done) | (go_simp; with_reducible rfl)
      try simp only [Act.put, List.getElem_toArray, List.getElem_cons_succ, List.getElem_cons_zero, List.setIfInBounds_toArray, List.set_cons_zero, List.set_cons_succ]
      refine wpAnyH_take (i := 9) (v := ?v9zB) rfl (by kernel_rfl) (by kernel_rfl) (by kernel_rfl) (fun _ _ _ h => h) (Or.inl ⟨by rfl, ?hy9zB⟩) (by assumption) ?rest9zB
      case hy9zB => intro w hSw; (try dsimp only at hSw); first | (go_simp; done) | (go_simp; with_reducible rfl)
      try simp only [Act.put, List.getElem_toArray, List.getElem_cons_succ, List.getElem_cons_zero, List.setIfInBounds_toArray, List.set_cons_zero, List.set_cons_succ]
      refine wpAnyH_take (i := 10) (v := undef) rfl (by kernel_rfl) (by kernel_rfl) (by kernel_rfl) (fun _ _ _ h => h) (Or.inr ⟨by rfl, rfl⟩) (by assumption) ?rest10zB
      try simp only [Act.put, List.getElem_toArray, List.getElem_cons_succ, List.getElem_cons_zero, List.setIfInBounds_toArray, List.set_cons_zero, List.set_cons_succ]
      refine wpAnyH_take (i := 11) (v := undef) rfl (by kernel_rfl) (by kernel_rfl) (by kernel_rfl) (fun _ _ _ h => h) (Or.inr ⟨by rfl, rfl⟩) (by assumption) ?rest11zB
      try simp only [Act.put, List.getElem_toArray, List.getElem_cons_succ, List.getElem_cons_zero, List.setIfInBounds_toArray, List.set_cons_zero, List.set_cons_succ]
      refine wpAnyH_take (i := 12) (v := undef) rfl (by kernel_rfl) (by kernel_rfl) (by kernel_rfl) (fun _ _ _ h => h) (Or.inr ⟨by rfl, rfl⟩) (by assumption) ?rest12zB
      try simp only [Act.put, List.getElem_toArray, List.getElem_cons_succ, List.getElem_cons_zero, List.setIfInBounds_toArray, List.set_cons_zero, List.set_cons_succ]
      refine wpAnyH_take (i := 13) (v := undef) rfl (by kernel_rfl) (by kernel_rfl) (by kernel_rfl) (fun _ _ _ h => h) (Or.inr ⟨by rfl, rfl⟩) (by assumption) ?rest13zB
      try simp only [Act.put, List.getElem_toArray, List.getElem_cons_succ, List.getElem_cons_zero, List.setIfInBounds_toArray, List.set_cons_zero, List.set_cons_succ]
      refine wpAnyH_take (i := 14) (v := undef) rfl (by kernel_rfl) (by kernel_rfl) (by kernel_rfl) (fun _ _ _ h => h) (Or.inr ⟨by rfl, rfl⟩) (by assumption) ?rest14zB
      try simp only [Act.put, List.getElem_toArray, List.getElem_cons_succ, List.getElem_cons_zero, List.setIfInBounds_toArray, List.set_cons_zero, List.set_cons_succ]
      refine wpAnyH_take (i := 15) (v := undef) rfl (by kernel_rfl) (by kernel_rfl) (by kernel_rfl) (fun _ _ _ h => h) (Or.inr ⟨by rfl, rfl⟩) (by assumption) ?rest15zB
      try simp only [Act.put, List.getElem_toArray, List.getElem_cons_succ, List.getElem_cons_zero, List.setIfInBounds_toArray, List.set_cons_zero, List.set_cons_succ]
      refine wpAnyH_take (i := 16) (v := undef) rfl (by kernel_rfl) (by kernel_rfl) (by kernel_rfl) (fun _ _ _ h => h) (Or.inr ⟨by rfl, rfl⟩) (by assumption) ?rest16zB
      try simp only [Act.put, List.getElem_toArray, List.getElem_cons_succ, List.getElem_cons_zero, List.setIfInBounds_toArray, List.set_cons_zero, List.set_cons_succ]
      refine wpAnyH_take (i := 17) (v := undef) rfl (by kernel_rfl) (by kernel_rfl) (by kernel_rfl) (fun _ _ _ h => h) (Or.inr ⟨by rfl, rfl⟩) (by assumption) ?rest17zB
      try simp only [Act.put, List.getElem_toArray, List.getElem_cons_succ, List.getElem_cons_zero, List.setIfInBounds_toArray, List.set_cons_zero, List.set_cons_succ]
      refine wpAnyH_take (i := 18) (v := undef) rfl (by kernel_rfl) (by kernel_rfl) (by kernel_rfl) (fun _ _ _ h => h) (Or.inr ⟨by rfl, rfl⟩) (by assumption) ?rest18zB
      try simp only [Act.put, List.getElem_toArray, List.getElem_cons_succ, List.getElem_cons_zero, List.setIfInBounds_toArray, List.set_cons_zero, List.set_cons_succ]
      refine wpAnyH_take (i := 19) (v := ?v19zB) rfl (by kernel_rfl) (by kernel_rfl) (by kernel_rfl) (fun _ _ _ h => h) (Or.inl ⟨by rfl, ?hy19zB⟩) (by assumption) ?rest19zB
      case hy19zB => intro w hSw; (try dsimp only at hSw); first | (go_simp; done) | (go_simp; with_reducible rfl)
      try simp only [Act.put, List.getElem_toArray, List.getElem_cons_succ, List.getElem_cons_zero, List.setIfInBounds_toArray, List.set_cons_zero, List.set_cons_succ]
      refine wpAnyH_take (i := 20) (v := ?v20zB) rfl (by kernel_rfl) (by kernel_rfl) (by kernel_rfl) (fun _ _ _ h => h) (Or.inl ⟨by rfl, ?hy20zB⟩) (by assumption) ?rest20zB
      case hy20zB => intro w hSw; (try dsimp only at hSw); first | (go_simp; done) | (go_simp; with_reducible rfl)
      try simp only [Act.put, List.getElem_toArray, List.getElem_cons_succ, List.getElem_cons_zero, List.setIfInBounds_toArray, List.set_cons_zero, List.set_cons_succ]
      refine wpAnyH_done (by kernel_rfl) ?_ _
      all_goals
        have HS9 := Lib.hid hHeld.2.2.2.2.2.2.2.2.below
        clear hHeld
        go_wp2_with fail
        go_ret
        exact ⟨by rw [HQ9.out]; rfl, by rw [hz]; exact Below.down HB.out HS9.out (by have := HB.out.size; omega)⟩
  · have hne : (xt == t) = false := by simpa using ht
    have HQ9 := Lib.hid (show Q = false by rw [← HQ.out, decide_eq_false ht]; rfl)
    clear ht
    go_enter Try.func67, Try.ntmps67
    go_wp2_with fail
    generalize w.alloc (.cells #[.int .i64 xf, .int .i64 xt, .bool xw] 50) = w1 at *
    generalize hz : w.heap.size = z at *
    refine wp_region_held_drew (S := (fun w' => w'.cell? ⟨z, 0, none⟩ = some (.int .i64 xf) ∧ w'.cell? ⟨z, 1, none⟩ = some (.int .i64 xt) ∧ w'.cell? ⟨z, 2, none⟩ = some (.bool xw) ∧ w'.cell? ⟨y0, 0, none⟩ = some (.int .i64 t) ∧ w'.cell? ⟨y1, 0, none⟩ = some (.func (.func 44) #[] #[]) ∧ w'.cell? ⟨y2, 1, none⟩ = some (.slice (some ⟨pb, pa, none⟩) n cap) ∧ w'.cell? ⟨y3, 0, none⟩ = some (.int .i64 (o : Int)) ∧ w'.cell? ⟨pb, pa + o * 5 + 2, none⟩ = some (.slice A2 n2 c2) ∧ VgS w1 c (.slice (some ⟨pb, pa, none⟩) n cap) vd vw vg (.func (.func 44) #[] #[]) (.slice A2 n2 c2) z y0 y1 y2 y3 pb pa xf xt xw t o l w')) (by kernel_rfl) ?_ (fun hHeld => ?_)
    · try dsimp only
      (go_split_ands; refine VgS.all ?_; (first | with_reducible assumption | with_reducible exact VgS.drew (by assumption) | with_reducible exact VgS.next (by assumption) (by assumption)))
    refine wpAnyH_take (i := 0) (v := ?v0zA) rfl (by kernel_rfl) (by kernel_rfl) (by kernel_rfl) (fun _ _ _ h => h) (Or.inl ⟨by rfl, ?hy0zA⟩) (by assumption) ?rest0zA
    case hy0zA => intro w hSw; (try dsimp only at hSw); first | (go_simp; done) | (go_simp; with_reducible rfl)
    try simp only [Act.put, List.getElem_toArray, List.getElem_cons_succ, List.getElem_cons_zero, List.setIfInBounds_toArray, List.set_cons_zero, List.set_cons_succ]
    refine wpAnyH_take (i := 1) (v := ?v1zA) rfl (by kernel_rfl) (by kernel_rfl) (by kernel_rfl) (fun _ _ _ h => h) (Or.inl ⟨by rfl, ?hy1zA⟩) (by assumption) ?rest1zA
    case hy1zA => intro w hSw; (try dsimp only at hSw); first | (go_simp; done) | (go_simp; with_reducible rfl)
    try simp only [Act.put, List.getElem_toArray, List.getElem_cons_succ, List.getElem_cons_zero, List.setIfInBounds_toArray, List.set_cons_zero, List.set_cons_succ]
    refine wpAnyH_take (i := 2) (v := ?v2zA) rfl (by kernel_rfl) (by kernel_rfl) (by kernel_rfl) (fun _ _ _ h => h) (Or.inl ⟨by rfl, ?hy2zA⟩) (by assumption) ?rest2zA
    case hy2zA => intro w hSw; (try dsimp only at hSw); first | (go_simp; done) | (go_simp; with_reducible rfl)
    try simp only [Act.put, List.getElem_toArray, List.getElem_cons_succ, List.getElem_cons_zero, List.setIfInBounds_toArray, List.set_cons_zero, List.set_cons_succ]
    refine wpAnyH_take (i := 3) (v := ?v3zA) rfl (by kernel_rfl) (by kernel_rfl) (by kernel_rfl) (fun _ _ _ h => h) (Or.inl ⟨by rfl, ?hy3zA⟩) (by assumption) ?rest3zA
    case hy3zA => intro w hSw; (try dsimp only at hSw); first | (go_simp; done) | (go_simp; with_reducible rfl)
    try simp only [Act.put, List.getElem_toArray, List.getElem_cons_succ, List.getElem_cons_zero, List.setIfInBounds_toArray, List.set_cons_zero, List.set_cons_succ]
    refine wpAnyH_take (i := 4) (v := ?v4zA) rfl (by kernel_rfl) (by kernel_rfl) (by kernel_rfl) (fun _ _ _ h => h) (Or.inl ⟨by rfl, ?hy4zA⟩) (by assumption) ?rest4zA
    case hy4zA => intro w hSw; (try dsimp only at hSw); first | (go_simp; done) | (go_simp; with_reducible rfl)
    try simp only [Act.put, List.getElem_toArray, List.getElem_cons_succ, List.getElem_cons_zero, List.setIfInBounds_toArray, List.set_cons_zero, List.set_cons_succ]
    refine wpAnyH_take (i := 5) (v := undef) rfl (by kernel_rfl) (by kernel_rfl) (by kernel_rfl) (fun _ _ _ h => h) (Or.inr ⟨by rfl, rfl⟩) (by assumption) ?rest5zA
    try simp only [Act.put, List.getElem_toArray, List.getElem_cons_succ, List.getElem_cons_zero, List.setIfInBounds_toArray, List.set_cons_zero, List.set_cons_succ]
    refine wpAnyH_take (i := 6) (v := undef) rfl (by kernel_rfl) (by kernel_rfl) (by kernel_rfl) (fun _ _ _ h => h) (Or.inr ⟨by rfl, rfl⟩) (by assumption) ?rest6zA
    try simp only [Act.put, List.getElem_toArray, List.getElem_cons_succ, List.getElem_cons_zero, List.setIfInBounds_toArray, List.set_cons_zero, List.set_cons_succ]
    refine wpAnyH_take (i := 7) (v := undef) rfl (by kernel_rfl) (by kernel_rfl) (by kernel_rfl) (fun _ _ _ h => h) (Or.inr ⟨by rfl, rfl⟩) (by assumption) ?rest7zA
    try simp only [Act.put, List.getElem_toArray, List.getElem_cons_succ, List.getElem_cons_zero, List.setIfInBounds_toArray, List.set_cons_zero, List.set_cons_succ]
    refine wpAnyH_take (i := 8) (v := ?v8zA) rfl (by kernel_rfl) (by kernel_rfl) (by kernel_rfl) (fun _ _ _ h => h) (Or.inl ⟨by rfl, ?hy8zA⟩) (by assumption) ?rest8zA
    case hy8zA => intro w hSw; (try dsimp only at hSw); first | (go_simp; done) | (go_simp; with_reducible rfl)
    try simp only [Act.put, List.getElem_toArray, List.getElem_cons_succ, List.getElem_cons_zero, List.setIfInBounds_toArray, List.set_cons_zero, List.set_cons_succ]
    refine wpAnyH_take (i := 9) (v := ?v9zA) rfl (by kernel_rfl) (by kernel_rfl) (by kernel_rfl) (fun _ _ _ h => h) (Or.inl ⟨by rfl, ?hy9zA⟩) (by assumption) ?rest9zA
    case hy9zA => intro w hSw; (try dsimp only at hSw); first | (go_simp; done) | (go_simp; with_reducible rfl)
    try simp only [Act.put, List.getElem_toArray, List.getElem_cons_succ, List.getElem_cons_zero, List.setIfInBounds_toArray, List.set_cons_zero, List.set_cons_succ]
    refine wpAnyH_take (i := 10) (v := undef) rfl (by kernel_rfl) (by kernel_rfl) (by kernel_rfl) (fun _ _ _ h => h) (Or.inr ⟨by rfl, rfl⟩) (by assumption) ?rest10zA
    try simp only [Act.put, List.getElem_toArray, List.getElem_cons_succ, List.getElem_cons_zero, List.setIfInBounds_toArray, List.set_cons_zero, List.set_cons_succ]
    refine wpAnyH_take (i := 11) (v := undef) rfl (by kernel_rfl) (by kernel_rfl) (by kernel_rfl) (fun _ _ _ h => h) (Or.inr ⟨by rfl, rfl⟩) (by assumption) ?rest11zA
    try simp only [Act.put, List.getElem_toArray, List.getElem_cons_succ, List.getElem_cons_zero, List.setIfInBounds_toArray, List.set_cons_zero, List.set_cons_succ]
    refine wpAnyH_take (i := 12) (v := undef) rfl (by kernel_rfl) (by kernel_rfl) (by kernel_rfl) (fun _ _ _ h => h) (Or.inr ⟨by rfl, rfl⟩) (by assumption) ?rest12zA
    try simp only [Act.put, List.getElem_toArray, List.getElem_cons_succ, List.getElem_cons_zero, List.setIfInBounds_toArray, List.set_cons_zero, List.set_cons_succ]
    refine wpAnyH_take (i := 13) (v := undef) rfl (by kernel_rfl) (by kernel_rfl) (by kernel_rfl) (fun _ _ _ h => h) (Or.inr ⟨by rfl, rfl⟩) (by assumption) ?rest13zA
    try simp only [Act.put, List.getElem_toArray, List.getElem_cons_succ, List.getElem_cons_zero, List.setIfInBounds_toArray, List.set_cons_zero, List.set_cons_succ]
    refine wpAnyH_take (i := 14) (v := undef) rfl (by kernel_rfl) (by kernel_rfl) (by kernel_rfl) (fun _ _ _ h => h) (Or.inr ⟨by rfl, rfl⟩) (by assumption) ?rest14zA
    try simp only [Act.put, List.getElem_toArray, List.getElem_cons_succ, List.getElem_cons_zero, List.setIfInBounds_toArray, List.set_cons_zero, List.set_cons_succ]
    refine wpAnyH_take (i := 15) (v := undef) rfl (by kernel_rfl) (by kernel_rfl) (by kernel_rfl) (fun _ _ _ h => h) (Or.inr ⟨by rfl, rfl⟩) (by assumption) ?rest15zA
    try simp only [Act.put, List.getElem_toArray, List.getElem_cons_succ, List.getElem_cons_zero, List.setIfInBounds_toArray, List.set_cons_zero, List.set_cons_succ]
    refine wpAnyH_take (i := 16) (v := undef) rfl (by kernel_rfl) (by kernel_rfl) (by kernel_rfl) (fun _ _ _ h => h) (Or.inr ⟨by rfl, rfl⟩) (by assumption) ?rest16zA
    try simp only [Act.put, List.getElem_toArray, List.getElem_cons_succ, List.getElem_cons_zero, List.setIfInBounds_toArray, List.set_cons_zero, List.set_cons_succ]
    refine wpAnyH_take (i := 17) (v := undef) rfl (by kernel_rfl) (by kernel_rfl) (by kernel_rfl) (fun _ _ _ h => h) (Or.inr ⟨by rfl, rfl⟩) (by assumption) ?rest17zA
    try simp only [Act.put, List.getElem_toArray, List.getElem_cons_succ, List.getElem_cons_zero, List.setIfInBounds_toArray, List.set_cons_zero, List.set_cons_succ]
    refine wpAnyH_take (i := 18) (v := undef) rfl (by kernel_rfl) (by kernel_rfl) (by kernel_rfl) (fun _ _ _ h => h) (Or.inr ⟨by rfl, rfl⟩) (by assumption) ?rest18zA
    try simp only [Act.put, List.getElem_toArray, List.getElem_cons_succ, List.getElem_cons_zero, List.setIfInBounds_toArray, List.set_cons_zero, List.set_cons_succ]
    refine wpAnyH_take (i := 19) (v := ?v19zA) rfl (by kernel_rfl) (by kernel_rfl) (by kernel_rfl) (fun _ _ _ h => h) (Or.inl ⟨by rfl, ?hy19zA⟩) (by assumption) ?rest19zA
    case hy19zA => intro w hSw; (try dsimp only at hSw); first | (go_simp; done) | (go_simp; with_reducible rfl)
    try simp only [Act.put, List.getElem_toArray, List.getElem_cons_succ, List.getElem_cons_zero, List.setIfInBounds_toArray, List.set_cons_zero, List.set_cons_succ]
    refine wpAnyH_take (i := 20) (v := ?v20zA) rfl (by kernel_rfl) (by kernel_rfl) (by kernel_rfl) (fun _ _ _ h => h) (Or.inl ⟨by rfl, ?hy20zA⟩) (by assumption) ?rest20zA
    case hy20zA => intro w hSw; (try dsimp only at hSw); first | (go_simp; done) | (go_simp; with_reducible rfl)
    try simp only [Act.put, List.getElem_toArray, List.getElem_cons_succ, List.getElem_cons_zero, List.setIfInBounds_toArray, List.set_cons_zero, List.set_cons_succ]
    refine wpAnyH_done (by kernel_rfl) ?_ _
    all_goals
      have HS9 := Lib.hid hHeld.2.2.2.2.2.2.2.2.below
      clear hHeld
      go_wp2_with fail
      go_ret
      exact ⟨by rw [HQ9.out]; rfl, by rw [hz]; exact Below.down HB.out HS9.out (by have := HB.out.size; omega)⟩
theorem vcnt_w (xf xt : Int) (xw : Bool) (w : World) : Calls Try.prog 45 #[.agg #[.int .i64 xf, .int .i64 xt, .bool xw]] w fun e w' => e = .returned (.bool (xw || !true)) ∧ Below w.heap.size w w' := by
  have hb : Blk (w.alloc (.cells #[.int .i64 xf, .int .i64 xt, .bool xw] 50)) w.heap.size 50 [.int .i64 xf, .int .i64 xt, .bool xw] := Blk.new _ _ _
  have k2 := hb.cell 2
  simp only [List.getElem?_cons_zero, List.getElem?_cons_succ] at k2
  clear hb
  cases xw
  all_goals
    go_enter Try.func45, Try.ntmps45
    go_wp2
    go_ret
    exact ⟨rfl, (Below.refl _ _).alloc (Nat.le_refl _) _⟩
set_option maxHeartbeats 1000000 in
theorem vg1_w {w : World} {c : Cf} {vp vd vw vg : Value} (xf xt : Int) (xw : Bool) (t : Int) (o : Nat) (y0 y1 y2 y3 : Nat) (hc : CfAt w vp vd vw vg c) (ho : o < c.ps.length) (h0 : Blk w y0 3 [.int .i64 t]) (h1 : Blk w y1 81 [.func (.func 45) #[] #[]]) (h2 : Blk w y2 27 (cfc c vp vd vw vg)) (h3 : Blk w y3 3 [.int .i64 o]) :
    Calls Try.prog 67 #[.agg #[.int .i64 xf, .int .i64 xt, .bool xw], .pointer (some ⟨y0, 0, none⟩), .pointer (some ⟨y1, 0, none⟩), .pointer (some ⟨y2, 0, none⟩), .pointer (some ⟨y3, 0, none⟩)] w fun e w' => e = .returned (.bool (vgB c o t true ⟨xf, xt, xw⟩)) ∧ Below w.heap.size w w' := by
  obtain ⟨A, cap, pb, pa, sv, rfl, hA, hr⟩ := hc.ps.rows
  obtain ⟨rfl, hpb⟩ := hA (by omega)
  obtain ⟨⟨-, -, r2, -, -⟩, hfs⟩ := hr o ho
  generalize sv o = s9 at *
  have hps := hc.pz.1
  have hpf := hc.pz.2 o
  have hB : Below w.heap.size w (w.alloc (.cells #[.int .i64 xf, .int .i64 xt, .bool xw] 50)) := (Below.refl _ _).alloc (Nat.le_refl _) _
  have hzb : Blk (w.alloc (.cells #[.int .i64 xf, .int .i64 xt, .bool xw] 50)) w.heap.size 50 [.int .i64 xf, .int .i64 xt, .bool xw] := Blk.new _ _ _
  have hS : VgS (w.alloc (.cells #[.int .i64 xf, .int .i64 xt, .bool xw] 50)) c (.slice (some ⟨pb, pa, none⟩) c.ps.length cap) vd vw vg (.func (.func 45) #[] #[]) s9 w.heap.size y0 y1 y2 y3 pb pa xf xt xw t o (c.ps.getD o paD).fr (w.alloc (.cells #[.int .i64 xf, .int .i64 xt, .bool xw] 50)) :=
    ⟨hzb, h0.below hB h0.lt, h1.below hB h1.lt, h2.below hB h2.lt, h3.below hB h3.lt, (hB.cell (p := ⟨pb, pa + o * 5 + 2, none⟩) hpb).trans r2, Nat.lt_of_lt_of_le hpb hB.size, hfs.below hB, Below.refl _ _⟩
  obtain ⟨A2, c2, rfl, -⟩ := hfs
  have HB := Lib.hid hB; have HC := Lib.hid (vcnt_w xf xt xw)
  obtain ⟨Q, hQ⟩ : ∃ Q, vgB c o t true ⟨xf, xt, xw⟩ = Q := ⟨_, rfl⟩
  rw [hQ]
  unfold vgB at hQ
  simp only [Int.toNat_natCast] at hQ
  have HQ := Lib.hid hQ
  clear hQ hB hzb h0 h1 h2 h3 r2 hr hA hc
  generalize (c.ps.getD o paD).fr = l at *
  generalize hl : l.length = n2 at *
  have HN := Lib.hid hl
  clear hl
  generalize c.ps.length = n at *
  have hoi : (o : Int) < (n : Int) := by omega
  by_cases ht : xt = t
  · by_cases hc : (xw || !true) = true
    · have HW := Lib.hid hc
      have HQ9 := Lib.hid (show Q = memI l xf by rw [← HQ.out, hc, decide_eq_true ht]; simp)
      subst ht
      clear hc
      go_enter Try.func67, Try.ntmps67
      go_wp2_with fail
      generalize w.alloc (.cells #[.int .i64 xf, .int .i64 xt, .bool xw] 50) = w1 at *
      generalize hz : w.heap.size = z at *
      refine wp_region_held_drew (S := (fun w' => w'.cell? ⟨z, 0, none⟩ = some (.int .i64 xf) ∧ w'.cell? ⟨z, 1, none⟩ = some (.int .i64 xt) ∧ w'.cell? ⟨z, 2, none⟩ = some (.bool xw) ∧ w'.cell? ⟨y0, 0, none⟩ = some (.int .i64 xt) ∧ w'.cell? ⟨y1, 0, none⟩ = some (.func (.func 45) #[] #[]) ∧ w'.cell? ⟨y2, 1, none⟩ = some (.slice (some ⟨pb, pa, none⟩) n cap) ∧ w'.cell? ⟨y3, 0, none⟩ = some (.int .i64 (o : Int)) ∧ w'.cell? ⟨pb, pa + o * 5 + 2, none⟩ = some (.slice A2 n2 c2) ∧ VgS w1 c (.slice (some ⟨pb, pa, none⟩) n cap) vd vw vg (.func (.func 45) #[] #[]) (.slice A2 n2 c2) z y0 y1 y2 y3 pb pa xf xt xw xt o l w')) (by kernel_rfl) ?_ (fun hHeld => ?_)
      · try dsimp only
        (go_split_ands; refine VgS.all ?_; (first | with_reducible assumption | with_reducible exact VgS.drew (by assumption) | with_reducible exact VgS.next (by assumption) (by assumption)))
      refine wpAnyH_take (i := 0) (v := ?v0zC) rfl (by kernel_rfl) (by kernel_rfl) (by kernel_rfl) (fun _ _ _ h => h) (Or.inl ⟨by rfl, ?hy0zC⟩) (by assumption) ?rest0zC
      case hy0zC => intro w hSw; (try dsimp only at hSw); first | (go_simp; done) | (go_simp; with_reducible rfl)
      try simp only [Act.put, List.getElem_toArray, List.getElem_cons_succ, List.getElem_cons_zero, List.setIfInBounds_toArray, List.set_cons_zero, List.set_cons_succ]
      refine wpAnyH_take (i := 1) (v := ?v1zC) rfl (by kernel_rfl) (by kernel_rfl) (by kernel_rfl) (fun _ _ _ h => h) (Or.inl ⟨by rfl, ?hy1zC⟩) (by assumption) ?rest1zC
      case hy1zC => intro w hSw; (try dsimp only at hSw); first | (go_simp; done) | (go_simp; with_reducible rfl)
      try simp only [Act.put, List.getElem_toArray, List.getElem_cons_succ, List.getElem_cons_zero, List.setIfInBounds_toArray, List.set_cons_zero, List.set_cons_succ]
      refine wpAnyH_take (i := 2) (v := ?v2zC) rfl (by kernel_rfl) (by kernel_rfl) (by kernel_rfl) (fun _ _ _ h => h) (Or.inl ⟨by rfl, ?hy2zC⟩) (by assumption) ?rest2zC
      case hy2zC => intro w hSw; (try dsimp only at hSw); first | (go_simp; done) | (go_simp; with_reducible rfl)
      try simp only [Act.put, List.getElem_toArray, List.getElem_cons_succ, List.getElem_cons_zero, List.setIfInBounds_toArray, List.set_cons_zero, List.set_cons_succ]
      refine wpAnyH_take (i := 3) (v := ?v3zC) rfl (by kernel_rfl) (by kernel_rfl) (by kernel_rfl) (fun _ _ _ h => h) (Or.inl ⟨by rfl, ?hy3zC⟩) (by assumption) ?rest3zC
      case hy3zC => intro w hSw; (try dsimp only at hSw); first | (go_simp; done) | (go_simp; with_reducible rfl)
      try simp only [Act.put, List.getElem_toArray, List.getElem_cons_succ, List.getElem_cons_zero, List.setIfInBounds_toArray, List.set_cons_zero, List.set_cons_succ]
      refine wpAnyH_take (i := 4) (v := ?v4zC) rfl (by kernel_rfl) (by kernel_rfl) (by kernel_rfl) (fun _ _ _ h => h) (Or.inl ⟨by rfl, ?hy4zC⟩) (by assumption) ?rest4zC
      case hy4zC => intro w hSw; (try dsimp only at hSw); first | (go_simp; done) | (go_simp; with_reducible rfl)
      try simp only [Act.put, List.getElem_toArray, List.getElem_cons_succ, List.getElem_cons_zero, List.setIfInBounds_toArray, List.set_cons_zero, List.set_cons_succ]
      refine wpAnyH_take (i := 5) (v := ?v5zC) rfl (by kernel_rfl) (by kernel_rfl) (by kernel_rfl) (fun _ _ _ h => h) (Or.inl ⟨by rfl, ?hy5zC⟩) (by assumption) ?rest5zC
      case hy5zC => intro w hSw; (try dsimp only at hSw); first | (go_simp; done) | (go_simp; with_reducible rfl)
      try simp only [Act.put, List.getElem_toArray, List.getElem_cons_succ, List.getElem_cons_zero, List.setIfInBounds_toArray, List.set_cons_zero, List.set_cons_succ]
      refine wpAnyH_take (i := 6) (v := ?v6zC) rfl (by kernel_rfl) (by kernel_rfl) (by kernel_rfl) (fun _ _ _ h => h) (Or.inl ⟨by rfl, ?hy6zC⟩) (by assumption) ?rest6zC
      case hy6zC => intro w hSw; (try dsimp only at hSw); first | (go_simp; done) | (go_simp; with_reducible rfl)
      try simp only [Act.put, List.getElem_toArray, List.getElem_cons_succ, List.getElem_cons_zero, List.setIfInBounds_toArray, List.set_cons_zero, List.set_cons_succ]
      refine wpAnyH_ready (rs := [7]) (by kernel_rfl) (by simp) ?_
      refine AllReadyH.cons rfl (fun K hK => ?_) AllReadyH.nil
      go_simp
      refine (HC.out _).mono ?_
      rintro e w5 ⟨rfl, hb5⟩
      rw [HW.out]
      go_wp2_with fail
      refine hK.out _ _ ?_ (fun hHeld2 => ?_)
      · try dsimp only
        (go_split_ands; refine VgS.all ?_; (first | with_reducible assumption | with_reducible exact VgS.drew (by assumption) | with_reducible exact VgS.next (by assumption) (by assumption)))
      clear hK K hHeld
      have hHeld := hHeld2; clear hHeld2
      try simp only [Act.put, List.getElem_toArray, List.getElem_cons_succ, List.getElem_cons_zero, List.setIfInBounds_toArray, List.set_cons_zero, List.set_cons_succ]
      refine wpAnyH_take (i := 8) (v := ?v8zC) rfl (by kernel_rfl) (by kernel_rfl) (by kernel_rfl) (fun _ _ _ h => h) (Or.inl ⟨by rfl, ?hy8zC⟩) (by assumption) ?rest8zC
      case hy8zC => intro w hSw; (try dsimp only at hSw); first | (go_simp; done) | (go_simp; with_reducible rfl)
      try simp only [Act.put, List.getElem_toArray, List.getElem_cons_succ, List.getElem_cons_zero, List.setIfInBounds_toArray, List.set_cons_zero, List.set_cons_succ]
      refine wpAnyH_take (i := 9) (v := ?v9zC) rfl (by kernel_rfl) (by kernel_rfl) (by kernel_rfl) (fun _ _ _ h => h) (Or.inl ⟨by rfl, ?hy9zC⟩) (by assumption) ?rest9zC
      case hy9zC => intro w hSw; (try dsimp only at hSw); first | (go_simp; done) | (go_simp; with_reducible rfl)
      try simp only [Act.put, List.getElem_toArray, List.getElem_cons_succ, List.getElem_cons_zero, List.setIfInBounds_toArray, List.set_cons_zero, List.set_cons_succ]
      refine wpAnyH_take (i := 10) (v := ?v10zC) rfl (by kernel_rfl) (by kernel_rfl) (by kernel_rfl) (fun _ _ _ h => h) (Or.inl ⟨by rfl, ?hy10zC⟩) (by assumption) ?rest10zC
      case hy10zC => intro w hSw; (try dsimp only at hSw); first | (go_simp; done) | (go_simp; with_reducible rfl)
      try simp only [Act.put, List.getElem_toArray, List.getElem_cons_succ, List.getElem_cons_zero, List.setIfInBounds_toArray, List.set_cons_zero, List.set_cons_succ]
      refine wpAnyH_take (i := 11) (v := ?v11zC) rfl (by kernel_rfl) (by kernel_rfl) (by kernel_rfl) (fun _ _ _ h => h) (Or.inl ⟨by rfl, ?hy11zC⟩) (by assumption) ?rest11zC
      case hy11zC => intro w hSw; (try dsimp only at hSw); first | (go_simp; done) | (go_simp; with_reducible rfl)
      try simp only [Act.put, List.getElem_toArray, List.getElem_cons_succ, List.getElem_cons_zero, List.setIfInBounds_toArray, List.set_cons_zero, List.set_cons_succ]
      refine wpAnyH_take (i := 12) (v := ?v12zC) rfl (by kernel_rfl) (by kernel_rfl) (by kernel_rfl) (fun _ _ _ h => h) (Or.inl ⟨by rfl, ?hy12zC⟩) (by assumption) ?rest12zC
      case hy12zC => intro w hSw; (try dsimp only at hSw); first | (go_simp; done) | (go_simp; with_reducible rfl)
      try simp only [Act.put, List.getElem_toArray, List.getElem_cons_succ, List.getElem_cons_zero, List.setIfInBounds_toArray, List.set_cons_zero, List.set_cons_succ]
      refine wpAnyH_take (i := 13) (v := ?v13zC) rfl (by kernel_rfl) (by kernel_rfl) (by kernel_rfl) (fun _ _ _ h => h) (Or.inl ⟨by rfl, ?hy13zC⟩) (by assumption) ?rest13zC
      case hy13zC => intro w hSw; (try dsimp only at hSw); first | (go_simp; done) | (go_simp; with_reducible rfl)
      try simp only [Act.put, List.getElem_toArray, List.getElem_cons_succ, List.getElem_cons_zero, List.setIfInBounds_toArray, List.set_cons_zero, List.set_cons_succ]
      refine wpAnyH_take (i := 14) (v := ?v14zC) rfl (by kernel_rfl) (by kernel_rfl) (by kernel_rfl) (fun _ _ _ h => h) (Or.inl ⟨by rfl, ?hy14zC⟩) (by assumption) ?rest14zC
      case hy14zC => intro w hSw; (try dsimp only at hSw); first | (go_simp; done) | (go_simp; with_reducible rfl)
      try simp only [Act.put, List.getElem_toArray, List.getElem_cons_succ, List.getElem_cons_zero, List.setIfInBounds_toArray, List.set_cons_zero, List.set_cons_succ]
      refine wpAnyH_take (i := 15) (v := ?v15zC) rfl (by kernel_rfl) (by kernel_rfl) (by kernel_rfl) (fun _ _ _ h => h) (Or.inl ⟨by rfl, ?hy15zC⟩) (by assumption) ?rest15zC
      case hy15zC => intro w hSw; (try dsimp only at hSw); first | (go_simp; done) | (go_simp; with_reducible rfl)
      try simp only [Act.put, List.getElem_toArray, List.getElem_cons_succ, List.getElem_cons_zero, List.setIfInBounds_toArray, List.set_cons_zero, List.set_cons_succ]
      refine wpAnyH_take (i := 16) (v := ?v16zC) rfl (by kernel_rfl) (by kernel_rfl) (by kernel_rfl) (fun _ _ _ h => h) (Or.inl ⟨by rfl, ?hy16zC⟩) (by assumption) ?rest16zC
      case hy16zC => intro w hSw; (try dsimp only at hSw); first | (go_simp; done) | (go_simp; with_reducible rfl)
      try simp only [Act.put, List.getElem_toArray, List.getElem_cons_succ, List.getElem_cons_zero, List.setIfInBounds_toArray, List.set_cons_zero, List.set_cons_succ]
      refine wpAnyH_take (i := 17) (v := ?v17zC) rfl (by kernel_rfl) (by kernel_rfl) (by kernel_rfl) (fun _ _ _ h => h) (Or.inl ⟨by rfl, ?hy17zC⟩) (by assumption) ?rest17zC
      case hy17zC => intro w hSw; (try dsimp only at hSw); first | (go_simp; done) | (go_simp; with_reducible rfl)
      try simp only [Act.put, List.getElem_toArray, List.getElem_cons_succ, List.getElem_cons_zero, List.setIfInBounds_toArray, List.set_cons_zero, List.set_cons_succ]
      refine wpAnyH_ready (rs := [18]) (by kernel_rfl) (by simp) ?_
      refine AllReadyH.cons rfl (fun K hK => ?_) AllReadyH.nil
      go_simp
      refine (contains_any _ l xf _ hHeld.2.2.2.2.2.2.2.2.fs (by rw [HN.out]; unfold maxLen; omega)).mono ?_
      rintro e w6 ⟨rfl, rfl⟩
      go_wp2_with fail
      refine hK.out _ _ ?_ (fun hHeld2 => ?_)
      · try dsimp only
        (go_split_ands; refine VgS.all ?_; (first | with_reducible assumption | with_reducible exact VgS.drew (by assumption) | with_reducible exact VgS.next (by assumption) (by assumption)))
      clear hK K hHeld
      have hHeld := hHeld2; clear hHeld2
      try simp only [Act.put, List.getElem_toArray, List.getElem_cons_succ, List.getElem_cons_zero, List.setIfInBounds_toArray, List.set_cons_zero, List.set_cons_succ]
      refine wpAnyH_take (i := 19) (v := ?v19zC) rfl (by kernel_rfl) (by kernel_rfl) (by kernel_rfl) (fun _ _ _ h => h) (Or.inl ⟨by rfl, ?hy19zC⟩) (by assumption) ?rest19zC
      case hy19zC => intro w hSw; (try dsimp only at hSw); first | (go_simp; done) | (go_simp; with_reducible rfl)
      try simp only [Act.put, List.getElem_toArray, List.getElem_cons_succ, List.getElem_cons_zero, List.setIfInBounds_toArray, List.set_cons_zero, List.set_cons_succ]
      refine wpAnyH_take (i := 20) (v := ?v20zC) rfl (by kernel_rfl) (by kernel_rfl) (by kernel_rfl) (fun _ _ _ h => h) (Or.inl ⟨by rfl, ?hy20zC⟩) (by assumption) ?rest20zC
      case hy20zC => intro w hSw; (try dsimp only at hSw); first | (go_simp; done) | (go_simp; with_reducible rfl)
      try simp only [Act.put, List.getElem_toArray, List.getElem_cons_succ, List.getElem_cons_zero, List.setIfInBounds_toArray, List.set_cons_zero, List.set_cons_succ]
      refine wpAnyH_done (by kernel_rfl) ?_ _
      all_goals
        have HS9 := Lib.hid hHeld.2.2.2.2.2.2.2.2.below
        clear hHeld
        go_wp2_with fail
        go_ret
        exact ⟨by rw [HQ9.out]; rfl, by rw [hz]; exact Below.down HB.out HS9.out (by have := HB.out.size; omega)⟩
    · have HW := Lib.hid (show (xw || !true) = false from Bool.eq_false_iff.2 hc)
      have HQ9 := Lib.hid (show Q = false by rw [← HQ.out, HW.out]; simp)
      subst ht
      clear hc
      go_enter Try.func67, Try.ntmps67
      go_wp2_with fail
      generalize w.alloc (.cells #[.int .i64 xf, .int .i64 xt, .bool xw] 50) = w1 at *
      generalize hz : w.heap.size = z at *
      refine wp_region_held_drew (S := (fun w' => w'.cell? ⟨z, 0, none⟩ = some (.int .i64 xf) ∧ w'.cell? ⟨z, 1, none⟩ = some (.int .i64 xt) ∧ w'.cell? ⟨z, 2, none⟩ = some (.bool xw) ∧ w'.cell? ⟨y0, 0, none⟩ = some (.int .i64 xt) ∧ w'.cell? ⟨y1, 0, none⟩ = some (.func (.func 45) #[] #[]) ∧ w'.cell? ⟨y2, 1, none⟩ = some (.slice (some ⟨pb, pa, none⟩) n cap) ∧ w'.cell? ⟨y3, 0, none⟩ = some (.int .i64 (o : Int)) ∧ w'.cell? ⟨pb, pa + o * 5 + 2, none⟩ = some (.slice A2 n2 c2) ∧ VgS w1 c (.slice (some ⟨pb, pa, none⟩) n cap) vd vw vg (.func (.func 45) #[] #[]) (.slice A2 n2 c2) z y0 y1 y2 y3 pb pa xf xt xw xt o l w')) (by kernel_rfl) ?_ (fun hHeld => ?_)
      · try dsimp only
        (go_split_ands; refine VgS.all ?_; (first | with_reducible assumption | with_reducible exact VgS.drew (by assumption) | with_reducible exact VgS.next (by assumption) (by assumption)))
      refine wpAnyH_take (i := 0) (v := ?v0zB) rfl (by kernel_rfl) (by kernel_rfl) (by kernel_rfl) (fun _ _ _ h => h) (Or.inl ⟨by rfl, ?hy0zB⟩) (by assumption) ?rest0zB
      case hy0zB => intro w hSw; (try dsimp only at hSw); first | (go_simp; done) | (go_simp; with_reducible rfl)
      try simp only [Act.put, List.getElem_toArray, List.getElem_cons_succ, List.getElem_cons_zero, List.setIfInBounds_toArray, List.set_cons_zero, List.set_cons_succ]
      refine wpAnyH_take (i := 1) (v := ?v1zB) rfl (by kernel_rfl) (by kernel_rfl) (by kernel_rfl) (fun _ _ _ h => h) (Or.inl ⟨by rfl, ?hy1zB⟩) (by assumption) ?rest1zB
      case hy1zB => intro w hSw; (try dsimp only at hSw); first | (go_simp; done) | (go_simp; with_reducible rfl)
      try simp only [Act.put, List.getElem_toArray, List.getElem_cons_succ, List.getElem_cons_zero, List.setIfInBounds_toArray, List.set_cons_zero, List.set_cons_succ]
      refine wpAnyH_take (i := 2) (v := ?v2zB) rfl (by kernel_rfl) (by kernel_rfl) (by kernel_rfl) (fun _ _ _ h => h) (Or.inl ⟨by rfl, ?hy2zB⟩) (by assumption) ?rest2zB
      case hy2zB => intro w hSw; (try dsimp only at hSw); first | (go_simp; done) | (go_simp; with_reducible rfl)
      try simp only [Act.put, List.getElem_toArray, List.getElem_cons_succ, List.getElem_cons_zero, List.setIfInBounds_toArray, List.set_cons_zero, List.set_cons_succ]
      refine wpAnyH_take (i := 3) (v := ?v3zB) rfl (by kernel_rfl) (by kernel_rfl) (by kernel_rfl) (fun _ _ _ h => h) (Or.inl ⟨by rfl, ?hy3zB⟩) (by assumption) ?rest3zB
      case hy3zB => intro w hSw; (try dsimp only at hSw); first | (go_simp; done) | (go_simp; with_reducible rfl)
      try simp only [Act.put, List.getElem_toArray, List.getElem_cons_succ, List.getElem_cons_zero, List.setIfInBounds_toArray, List.set_cons_zero, List.set_cons_succ]
      refine wpAnyH_take (i := 4) (v := ?v4zB) rfl (by kernel_rfl) (by kernel_rfl) (by kernel_rfl) (fun _ _ _ h => h) (Or.inl ⟨by rfl, ?hy4zB⟩) (by assumption) ?rest4zB
      case hy4zB => intro w hSw; (try dsimp only at hSw); first | (go_simp; done) | (go_simp; with_reducible rfl)
      try simp only [Act.put, List.getElem_toArray, List.getElem_cons_succ, List.getElem_cons_zero, List.setIfInBounds_toArray, List.set_cons_zero, List.set_cons_succ]
      refine wpAnyH_take (i := 5) (v := ?v5zB) rfl (by kernel_rfl) (by kernel_rfl) (by kernel_rfl) (fun _ _ _ h => h) (Or.inl ⟨by rfl, ?hy5zB⟩) (by assumption) ?rest5zB
      case hy5zB => intro w hSw; (try dsimp only at hSw); first | (go_simp; done) | (go_simp; with_reducible rfl)
      try simp only [Act.put, List.getElem_toArray, List.getElem_cons_succ, List.getElem_cons_zero, List.setIfInBounds_toArray, List.set_cons_zero, List.set_cons_succ]
      refine wpAnyH_take (i := 6) (v := ?v6zB) rfl (by kernel_rfl) (by kernel_rfl) (by kernel_rfl) (fun _ _ _ h => h) (Or.inl ⟨by rfl, ?hy6zB⟩) (by assumption) ?rest6zB
      case hy6zB => intro w hSw; (try dsimp only at hSw); first | (go_simp; done) | (go_simp; with_reducible rfl)
      try simp only [Act.put, List.getElem_toArray, List.getElem_cons_succ, List.getElem_cons_zero, List.setIfInBounds_toArray, List.set_cons_zero, List.set_cons_succ]
      refine wpAnyH_ready (rs := [7]) (by kernel_rfl) (by simp) ?_
      refine AllReadyH.cons rfl (fun K hK => ?_) AllReadyH.nil
      go_simp
      refine (HC.out _).mono ?_
      rintro e w5 ⟨rfl, hb5⟩
      rw [HW.out]
      go_wp2_with fail
      refine hK.out _ _ ?_ (fun hHeld2 => ?_)
      · try dsimp only
        (go_split_ands; refine VgS.all ?_; (first | with_reducible assumption | with_reducible exact VgS.drew (by assumption) | with_reducible exact VgS.next (by assumption) (by assumption)))
      clear hK K hHeld
      have hHeld := hHeld2; clear hHeld2
      try simp only [Act.put, List.getElem_toArray, List.getElem_cons_succ, List.getElem_cons_zero, List.setIfInBounds_toArray, List.set_cons_zero, List.set_cons_succ]
      refine wpAnyH_take (i := 8) (v := ?v8zB) rfl (by kernel_rfl) (by kernel_rfl) (by kernel_rfl) (fun _ _ _ h => h) (Or.inl ⟨by rfl, ?hy8zB⟩) (by assumption) ?rest8zB
      case hy8zB => intro w hSw; (try dsimp only at hSw); first | (go_simp; done) | (go_simp; with_reducible rfl)
      try simp only [Act.put, List.getElem_toArray, List.getElem_cons_succ, List.getElem_cons_zero, List.setIfInBounds_toArray, List.set_cons_zero, List.set_cons_succ]
      refine wpAnyH_take (i := 9) (v := ?v9zB) rfl (by kernel_rfl) (by kernel_rfl) (by kernel_rfl) (fun _ _ _ h => h) (Or.inl ⟨by rfl, ?hy9zB⟩) (by assumption) ?rest9zB
      case hy9zB => intro w hSw; (try dsimp only at hSw); first | (go_simp; done) | (go_simp; with_reducible rfl)
      try simp only [Act.put, List.getElem_toArray, List.getElem_cons_succ, List.getElem_cons_zero, List.setIfInBounds_toArray, List.set_cons_zero, List.set_cons_succ]
      refine wpAnyH_take (i := 10) (v := undef) rfl (by kernel_rfl) (by kernel_rfl) (by kernel_rfl) (fun _ _ _ h => h) (Or.inr ⟨by rfl, rfl⟩) (by assumption) ?rest10zB
      try simp only [Act.put, List.getElem_toArray, List.getElem_cons_succ, List.getElem_cons_zero, List.setIfInBounds_toArray, List.set_cons_zero, List.set_cons_succ]
      refine wpAnyH_take (i := 11) (v := undef) rfl (by kernel_rfl) (by kernel_rfl) (by kernel_rfl) (fun _ _ _ h => h) (Or.inr ⟨by rfl, rfl⟩) (by assumption) ?rest11zB
      try simp only [Act.put, List.getElem_toArray, List.getElem_cons_succ, List.getElem_cons_zero, List.setIfInBounds_toArray, List.set_cons_zero, List.set_cons_succ]
      refine wpAnyH_take (i := 12) (v := undef) rfl (by kernel_rfl) (by kernel_rfl) (by kernel_rfl) (fun _ _ _ h => h) (Or.inr ⟨by rfl, rfl⟩) (by assumption) ?rest12zB
      try simp only [Act.put, List.getElem_toArray, List.getElem_cons_succ, List.getElem_cons_zero, List.setIfInBounds_toArray, List.set_cons_zero, List.set_cons_succ]
      refine wpAnyH_take (i := 13) (v := undef) rfl (by kernel_rfl) (by kernel_rfl) (by kernel_rfl) (fun _ _ _ h => h) (Or.inr ⟨by rfl, rfl⟩) (by assumption) ?rest13zB
      try simp only [Act.put, List.getElem_toArray, List.getElem_cons_succ, List.getElem_cons_zero, List.setIfInBounds_toArray, List.set_cons_zero, List.set_cons_succ]
      refine wpAnyH_take (i := 14) (v := undef) rfl (by kernel_rfl) (by kernel_rfl) (by kernel_rfl) (fun _ _ _ h => h) (Or.inr ⟨by rfl, rfl⟩) (by assumption) ?rest14zB
      try simp only [Act.put, List.getElem_toArray, List.getElem_cons_succ, List.getElem_cons_zero, List.setIfInBounds_toArray, List.set_cons_zero, List.set_cons_succ]
      refine wpAnyH_take (i := 15) (v := undef) rfl (by kernel_rfl) (by kernel_rfl) (by kernel_rfl) (fun _ _ _ h => h) (Or.inr ⟨by rfl, rfl⟩) (by assumption) ?rest15zB
      try simp only [Act.put, List.getElem_toArray, List.getElem_cons_succ, List.getElem_cons_zero, List.setIfInBounds_toArray, List.set_cons_zero, List.set_cons_succ]
      refine wpAnyH_take (i := 16) (v := undef) rfl (by kernel_rfl) (by kernel_rfl) (by kernel_rfl) (fun _ _ _ h => h) (Or.inr ⟨by rfl, rfl⟩) (by assumption) ?rest16zB
      try simp only [Act.put, List.getElem_toArray, List.getElem_cons_succ, List.getElem_cons_zero, List.setIfInBounds_toArray, List.set_cons_zero, List.set_cons_succ]
      refine wpAnyH_take (i := 17) (v := undef) rfl (by kernel_rfl) (by kernel_rfl) (by kernel_rfl) (fun _ _ _ h => h) (Or.inr ⟨by rfl, rfl⟩) (by assumption) ?rest17zB
      try simp only [Act.put, List.getElem_toArray, List.getElem_cons_succ, List.getElem_cons_zero, List.setIfInBounds_toArray, List.set_cons_zero, List.set_cons_succ]
      refine wpAnyH_take (i := 18) (v := undef) rfl (by kernel_rfl) (by kernel_rfl) (by kernel_rfl) (fun _ _ _ h => h) (Or.inr ⟨by rfl, rfl⟩) (by assumption) ?rest18zB
      try simp only [Act.put, List.getElem_toArray, List.getElem_cons_succ, List.getElem_cons_zero, List.setIfInBounds_toArray, List.set_cons_zero, List.set_cons_succ]
      refine wpAnyH_take (i := 19) (v := ?v19zB) rfl (by kernel_rfl) (by kernel_rfl) (by kernel_rfl) (fun _ _ _ h => h) (Or.inl ⟨by rfl, ?hy19zB⟩) (by assumption) ?rest19zB
      case hy19zB => intro w hSw; (try dsimp only at hSw); first | (go_simp; done) | (go_simp; with_reducible rfl)
      try simp only [Act.put, List.getElem_toArray, List.getElem_cons_succ, List.getElem_cons_zero, List.setIfInBounds_toArray, List.set_cons_zero, List.set_cons_succ]
      refine wpAnyH_take (i := 20) (v := ?v20zB) rfl (by kernel_rfl) (by kernel_rfl) (by kernel_rfl) (fun _ _ _ h => h) (Or.inl ⟨by rfl, ?hy20zB⟩) (by assumption) ?rest20zB
      case hy20zB => intro w hSw; (try dsimp only at hSw); first | (go_simp; done) | (go_simp; with_reducible rfl)
      try simp only [Act.put, List.getElem_toArray, List.getElem_cons_succ, List.getElem_cons_zero, List.setIfInBounds_toArray, List.set_cons_zero, List.set_cons_succ]
      refine wpAnyH_done (by kernel_rfl) ?_ _
      all_goals
        have HS9 := Lib.hid hHeld.2.2.2.2.2.2.2.2.below
        clear hHeld
        go_wp2_with fail
        go_ret
        exact ⟨by rw [HQ9.out]; rfl, by rw [hz]; exact Below.down HB.out HS9.out (by have := HB.out.size; omega)⟩
  · have hne : (xt == t) = false := by simpa using ht
    have HQ9 := Lib.hid (show Q = false by rw [← HQ.out, decide_eq_false ht]; rfl)
    clear ht
    go_enter Try.func67, Try.ntmps67
    go_wp2_with fail
    generalize w.alloc (.cells #[.int .i64 xf, .int .i64 xt, .bool xw] 50) = w1 at *
    generalize hz : w.heap.size = z at *
    refine wp_region_held_drew (S := (fun w' => w'.cell? ⟨z, 0, none⟩ = some (.int .i64 xf) ∧ w'.cell? ⟨z, 1, none⟩ = some (.int .i64 xt) ∧ w'.cell? ⟨z, 2, none⟩ = some (.bool xw) ∧ w'.cell? ⟨y0, 0, none⟩ = some (.int .i64 t) ∧ w'.cell? ⟨y1, 0, none⟩ = some (.func (.func 45) #[] #[]) ∧ w'.cell? ⟨y2, 1, none⟩ = some (.slice (some ⟨pb, pa, none⟩) n cap) ∧ w'.cell? ⟨y3, 0, none⟩ = some (.int .i64 (o : Int)) ∧ w'.cell? ⟨pb, pa + o * 5 + 2, none⟩ = some (.slice A2 n2 c2) ∧ VgS w1 c (.slice (some ⟨pb, pa, none⟩) n cap) vd vw vg (.func (.func 45) #[] #[]) (.slice A2 n2 c2) z y0 y1 y2 y3 pb pa xf xt xw t o l w')) (by kernel_rfl) ?_ (fun hHeld => ?_)
    · try dsimp only
      (go_split_ands; refine VgS.all ?_; (first | with_reducible assumption | with_reducible exact VgS.drew (by assumption) | with_reducible exact VgS.next (by assumption) (by assumption)))
    refine wpAnyH_take (i := 0) (v := ?v0zA) rfl (by kernel_rfl) (by kernel_rfl) (by kernel_rfl) (fun _ _ _ h => h) (Or.inl ⟨by rfl, ?hy0zA⟩) (by assumption) ?rest0zA
    case hy0zA => intro w hSw; (try dsimp only at hSw); first | (go_simp; done) | (go_simp; with_reducible rfl)
    try simp only [Act.put, List.getElem_toArray, List.getElem_cons_succ, List.getElem_cons_zero, List.setIfInBounds_toArray, List.set_cons_zero, List.set_cons_succ]
    refine wpAnyH_take (i := 1) (v := ?v1zA) rfl (by kernel_rfl) (by kernel_rfl) (by kernel_rfl) (fun _ _ _ h => h) (Or.inl ⟨by rfl, ?hy1zA⟩) (by assumption) ?rest1zA
    case hy1zA => intro w hSw; (try dsimp only at hSw); first | (go_simp; done) | (go_simp; with_reducible rfl)
    try simp only [Act.put, List.getElem_toArray, List.getElem_cons_succ, List.getElem_cons_zero, List.setIfInBounds_toArray, List.set_cons_zero, List.set_cons_succ]
    refine wpAnyH_take (i := 2) (v := ?v2zA) rfl (by kernel_rfl) (by kernel_rfl) (by kernel_rfl) (fun _ _ _ h => h) (Or.inl ⟨by rfl, ?hy2zA⟩) (by assumption) ?rest2zA
    case hy2zA => intro w hSw; (try dsimp only at hSw); first | (go_simp; done) | (go_simp; with_reducible rfl)
    try simp only [Act.put, List.getElem_toArray, List.getElem_cons_succ, List.getElem_cons_zero, List.setIfInBounds_toArray, List.set_cons_zero, List.set_cons_succ]
    refine wpAnyH_take (i := 3) (v := ?v3zA) rfl (by kernel_rfl) (by kernel_rfl) (by kernel_rfl) (fun _ _ _ h => h) (Or.inl ⟨by rfl, ?hy3zA⟩) (by assumption) ?rest3zA
    case hy3zA => intro w hSw; (try dsimp only at hSw); first | (go_simp; done) | (go_simp; with_reducible rfl)
    try simp only [Act.put, List.getElem_toArray, List.getElem_cons_succ, List.getElem_cons_zero, List.setIfInBounds_toArray, List.set_cons_zero, List.set_cons_succ]
    refine wpAnyH_take (i := 4) (v := ?v4zA) rfl (by kernel_rfl) (by kernel_rfl) (by kernel_rfl) (fun _ _ _ h => h) (Or.inl ⟨by rfl, ?hy4zA⟩) (by assumption) ?rest4zA
    case hy4zA => intro w hSw; (try dsimp only at hSw); first | (go_simp; done) | (go_simp; with_reducible rfl)
    try simp only [Act.put, List.getElem_toArray, List.getElem_cons_succ, List.getElem_cons_zero, List.setIfInBounds_toArray, List.set_cons_zero, List.set_cons_succ]
    refine wpAnyH_take (i := 5) (v := undef) rfl (by kernel_rfl) (by kernel_rfl) (by kernel_rfl) (fun _ _ _ h => h) (Or.inr ⟨by rfl, rfl⟩) (by assumption) ?rest5zA
    try simp only [Act.put, List.getElem_toArray, List.getElem_cons_succ, List.getElem_cons_zero, List.setIfInBounds_toArray, List.set_cons_zero, List.set_cons_succ]
    refine wpAnyH_take (i := 6) (v := undef) rfl (by kernel_rfl) (by kernel_rfl) (by kernel_rfl) (fun _ _ _ h => h) (Or.inr ⟨by rfl, rfl⟩) (by assumption) ?rest6zA
    try simp only [Act.put, List.getElem_toArray, List.getElem_cons_succ, List.getElem_cons_zero, List.setIfInBounds_toArray, List.set_cons_zero, List.set_cons_succ]
    refine wpAnyH_take (i := 7) (v := undef) rfl (by kernel_rfl) (by kernel_rfl) (by kernel_rfl) (fun _ _ _ h => h) (Or.inr ⟨by rfl, rfl⟩) (by assumption) ?rest7zA
    try simp only [Act.put, List.getElem_toArray, List.getElem_cons_succ, List.getElem_cons_zero, List.setIfInBounds_toArray, List.set_cons_zero, List.set_cons_succ]
    refine wpAnyH_take (i := 8) (v := ?v8zA) rfl (by kernel_rfl) (by kernel_rfl) (by kernel_rfl) (fun _ _ _ h => h) (Or.inl ⟨by rfl, ?hy8zA⟩) (by assumption) ?rest8zA
    case hy8zA => intro w hSw; (try dsimp only at hSw); first | (go_simp; done) | (go_simp; with_reducible rfl)
    try simp only [Act.put, List.getElem_toArray, List.getElem_cons_succ, List.getElem_cons_zero, List.setIfInBounds_toArray, List.set_cons_zero, List.set_cons_succ]
    refine wpAnyH_take (i := 9) (v := ?v9zA) rfl (by kernel_rfl) (by kernel_rfl) (by kernel_rfl) (fun _ _ _ h => h) (Or.inl ⟨by rfl, ?hy9zA⟩) (by assumption) ?rest9zA
    case hy9zA => intro w hSw; (try dsimp only at hSw); first | (go_simp; done) | (go_simp; with_reducible rfl)
    try simp only [Act.put, List.getElem_toArray, List.getElem_cons_succ, List.getElem_cons_zero, List.setIfInBounds_toArray, List.set_cons_zero, List.set_cons_succ]
    refine wpAnyH_take (i := 10) (v := undef) rfl (by kernel_rfl) (by kernel_rfl) (by kernel_rfl) (fun _ _ _ h => h) (Or.inr ⟨by rfl, rfl⟩) (by assumption) ?rest10zA
    try simp only [Act.put, List.getElem_toArray, List.getElem_cons_succ, List.getElem_cons_zero, List.setIfInBounds_toArray, List.set_cons_zero, List.set_cons_succ]
    refine wpAnyH_take (i := 11) (v := undef) rfl (by kernel_rfl) (by kernel_rfl) (by kernel_rfl) (fun _ _ _ h => h) (Or.inr ⟨by rfl, rfl⟩) (by assumption) ?rest11zA
    try simp only [Act.put, List.getElem_toArray, List.getElem_cons_succ, List.getElem_cons_zero, List.setIfInBounds_toArray, List.set_cons_zero, List.set_cons_succ]
    refine wpAnyH_take (i := 12) (v := undef) rfl (by kernel_rfl) (by kernel_rfl) (by kernel_rfl) (fun _ _ _ h => h) (Or.inr ⟨by rfl, rfl⟩) (by assumption) ?rest12zA
    try simp only [Act.put, List.getElem_toArray, List.getElem_cons_succ, List.getElem_cons_zero, List.setIfInBounds_toArray, List.set_cons_zero, List.set_cons_succ]
    refine wpAnyH_take (i := 13) (v := undef) rfl (by kernel_rfl) (by kernel_rfl) (by kernel_rfl) (fun _ _ _ h => h) (Or.inr ⟨by rfl, rfl⟩) (by assumption) ?rest13zA
    try simp only [Act.put, List.getElem_toArray, List.getElem_cons_succ, List.getElem_cons_zero, List.setIfInBounds_toArray, List.set_cons_zero, List.set_cons_succ]
    refine wpAnyH_take (i := 14) (v := undef) rfl (by kernel_rfl) (by kernel_rfl) (by kernel_rfl) (fun _ _ _ h => h) (Or.inr ⟨by rfl, rfl⟩) (by assumption) ?rest14zA
    try simp only [Act.put, List.getElem_toArray, List.getElem_cons_succ, List.getElem_cons_zero, List.setIfInBounds_toArray, List.set_cons_zero, List.set_cons_succ]
    refine wpAnyH_take (i := 15) (v := undef) rfl (by kernel_rfl) (by kernel_rfl) (by kernel_rfl) (fun _ _ _ h => h) (Or.inr ⟨by rfl, rfl⟩) (by assumption) ?rest15zA
    try simp only [Act.put, List.getElem_toArray, List.getElem_cons_succ, List.getElem_cons_zero, List.setIfInBounds_toArray, List.set_cons_zero, List.set_cons_succ]
    refine wpAnyH_take (i := 16) (v := undef) rfl (by kernel_rfl) (by kernel_rfl) (by kernel_rfl) (fun _ _ _ h => h) (Or.inr ⟨by rfl, rfl⟩) (by assumption) ?rest16zA
    try simp only [Act.put, List.getElem_toArray, List.getElem_cons_succ, List.getElem_cons_zero, List.setIfInBounds_toArray, List.set_cons_zero, List.set_cons_succ]
    refine wpAnyH_take (i := 17) (v := undef) rfl (by kernel_rfl) (by kernel_rfl) (by kernel_rfl) (fun _ _ _ h => h) (Or.inr ⟨by rfl, rfl⟩) (by assumption) ?rest17zA
    try simp only [Act.put, List.getElem_toArray, List.getElem_cons_succ, List.getElem_cons_zero, List.setIfInBounds_toArray, List.set_cons_zero, List.set_cons_succ]
    refine wpAnyH_take (i := 18) (v := undef) rfl (by kernel_rfl) (by kernel_rfl) (by kernel_rfl) (fun _ _ _ h => h) (Or.inr ⟨by rfl, rfl⟩) (by assumption) ?rest18zA
    try simp only [Act.put, List.getElem_toArray, List.getElem_cons_succ, List.getElem_cons_zero, List.setIfInBounds_toArray, List.set_cons_zero, List.set_cons_succ]
    refine wpAnyH_take (i := 19) (v := ?v19zA) rfl (by kernel_rfl) (by kernel_rfl) (by kernel_rfl) (fun _ _ _ h => h) (Or.inl ⟨by rfl, ?hy19zA⟩) (by assumption) ?rest19zA
    case hy19zA => intro w hSw; (try dsimp only at hSw); first | (go_simp; done) | (go_simp; with_reducible rfl)
    try simp only [Act.put, List.getElem_toArray, List.getElem_cons_succ, List.getElem_cons_zero, List.setIfInBounds_toArray, List.set_cons_zero, List.set_cons_succ]
    refine wpAnyH_take (i := 20) (v := ?v20zA) rfl (by kernel_rfl) (by kernel_rfl) (by kernel_rfl) (fun _ _ _ h => h) (Or.inl ⟨by rfl, ?hy20zA⟩) (by assumption) ?rest20zA
    case hy20zA => intro w hSw; (try dsimp only at hSw); first | (go_simp; done) | (go_simp; with_reducible rfl)
    try simp only [Act.put, List.getElem_toArray, List.getElem_cons_succ, List.getElem_cons_zero, List.setIfInBounds_toArray, List.set_cons_zero, List.set_cons_succ]
    refine wpAnyH_done (by kernel_rfl) ?_ _
    all_goals
      have HS9 := Lib.hid hHeld.2.2.2.2.2.2.2.2.below
      clear hHeld
      go_wp2_with fail
      go_ret
      exact ⟨by rw [HQ9.out]; rfl, by rw [hz]; exact Below.down HB.out HS9.out (by have := HB.out.size; omega)⟩
set_option maxHeartbeats 1000000 in
theorem vgrants_r {w : World} {c : Cf} {vp vd vw vg : Value} (h : CfAt w vp vd vw vg c) (o : Nat) (t : Int) (ho : o < c.ps.length) :
    Calls Try.prog 43 #[.agg #[.int .i64 c.fr, vp, vd, .int .i64 c.mj, vw, vg, .int .i64 c.se, .int .i64 c.qu, .int .i64 c.qt], .int .i64 o, .int .i64 t, .func (.func 44) #[] #[]] w fun e w' => e = .returned (.bool (gtB c o t false)) ∧ Below w.heap.size w w' := by
  have hgs := h.gs
  have hz := h.gz
  obtain ⟨A', cap', rfl⟩ : ∃ A' cap', vg = .slice A' c.gs.length cap' := by obtain ⟨A', c', e, _⟩ := hgs; exact ⟨A', c', e⟩
  generalize hgn : c.gs.length = m at *
  have b1 : Below w.heap.size w (w.alloc (.cells #[.int .i64 c.fr, vp, vd, .int .i64 c.mj, vw, .slice A' m cap', .int .i64 c.se, .int .i64 c.qu, .int .i64 c.qt] 27)) := (Below.refl _ _).alloc (Nat.le_refl _) _
  have b2 : Below w.heap.size w ((w.alloc (.cells #[.int .i64 c.fr, vp, vd, .int .i64 c.mj, vw, .slice A' m cap', .int .i64 c.se, .int .i64 c.qu, .int .i64 c.qt] 27)).alloc (.cells #[.int .i64 (o : Int)] 3)) := b1.alloc b1.size _
  have b3 : Below w.heap.size w (((w.alloc (.cells #[.int .i64 c.fr, vp, vd, .int .i64 c.mj, vw, .slice A' m cap', .int .i64 c.se, .int .i64 c.qu, .int .i64 c.qt] 27)).alloc (.cells #[.int .i64 (o : Int)] 3)).alloc (.cells #[.int .i64 t] 3)) := b2.alloc b2.size _
  have b4 : Below w.heap.size w ((((w.alloc (.cells #[.int .i64 c.fr, vp, vd, .int .i64 c.mj, vw, .slice A' m cap', .int .i64 c.se, .int .i64 c.qu, .int .i64 c.qt] 27)).alloc (.cells #[.int .i64 (o : Int)] 3)).alloc (.cells #[.int .i64 t] 3)).alloc (.cells #[.func (.func 44) #[] #[]] 81)) := b3.alloc b3.size _
  have k0 : Blk ((((w.alloc (.cells #[.int .i64 c.fr, vp, vd, .int .i64 c.mj, vw, .slice A' m cap', .int .i64 c.se, .int .i64 c.qu, .int .i64 c.qt] 27)).alloc (.cells #[.int .i64 (o : Int)] 3)).alloc (.cells #[.int .i64 t] 3)).alloc (.cells #[.func (.func 44) #[] #[]] 81)) w.heap.size 27 (cfc c vp vd vw (.slice A' m cap')) := (((Blk.new w _ (cfc c vp vd vw (.slice A' m cap'))).alloc _).alloc _).alloc _
  have k1 : Blk ((((w.alloc (.cells #[.int .i64 c.fr, vp, vd, .int .i64 c.mj, vw, .slice A' m cap', .int .i64 c.se, .int .i64 c.qu, .int .i64 c.qt] 27)).alloc (.cells #[.int .i64 (o : Int)] 3)).alloc (.cells #[.int .i64 t] 3)).alloc (.cells #[.func (.func 44) #[] #[]] 81)) (w.heap.size + 1) 3 [.int .i64 (o : Int)] := by
    have := ((Blk.new (w.alloc (.cells #[.int .i64 c.fr, vp, vd, .int .i64 c.mj, vw, .slice A' m cap', .int .i64 c.se, .int .i64 c.qu, .int .i64 c.qt] 27)) 3 [.int .i64 (o : Int)]).alloc (.cells #[.int .i64 t] 3)).alloc (.cells #[.func (.func 44) #[] #[]] 81)
    simpa using this
  have k2 : Blk ((((w.alloc (.cells #[.int .i64 c.fr, vp, vd, .int .i64 c.mj, vw, .slice A' m cap', .int .i64 c.se, .int .i64 c.qu, .int .i64 c.qt] 27)).alloc (.cells #[.int .i64 (o : Int)] 3)).alloc (.cells #[.int .i64 t] 3)).alloc (.cells #[.func (.func 44) #[] #[]] 81)) (w.heap.size + 1 + 1) 3 [.int .i64 t] := by
    have := (Blk.new ((w.alloc (.cells #[.int .i64 c.fr, vp, vd, .int .i64 c.mj, vw, .slice A' m cap', .int .i64 c.se, .int .i64 c.qu, .int .i64 c.qt] 27)).alloc (.cells #[.int .i64 (o : Int)] 3)) 3 [.int .i64 t]).alloc (.cells #[.func (.func 44) #[] #[]] 81)
    simpa using this
  have k3 : Blk ((((w.alloc (.cells #[.int .i64 c.fr, vp, vd, .int .i64 c.mj, vw, .slice A' m cap', .int .i64 c.se, .int .i64 c.qu, .int .i64 c.qt] 27)).alloc (.cells #[.int .i64 (o : Int)] 3)).alloc (.cells #[.int .i64 t] 3)).alloc (.cells #[.func (.func 44) #[] #[]] 81)) (w.heap.size + 1 + 1 + 1) 81 [.func (.func 44) #[] #[]] := by
    have := Blk.new (((w.alloc (.cells #[.int .i64 c.fr, vp, vd, .int .i64 c.mj, vw, .slice A' m cap', .int .i64 c.se, .int .i64 c.qu, .int .i64 c.qt] 27)).alloc (.cells #[.int .i64 (o : Int)] 3)).alloc (.cells #[.int .i64 t] 3)) 81 [.func (.func 44) #[] #[]]
    simpa using this
  have q5 := (cf_at k0).2.2.2.2.2.1
  have HB := Lib.hid b4
  have hgs4 := hgs.below b4
  have hc4 := h.below b4
  obtain ⟨b, a, hbo⟩ : ∃ b a, 0 < m → A' = some ⟨b, a, none⟩ := by
    by_cases h0 : 0 < m
    · obtain ⟨b, a, e, _⟩ := grs_at hgs hgn 0 h0
      exact ⟨b, a, fun _ => e⟩
    · exact ⟨0, 0, fun h => absurd h h0⟩
  generalize hw4 : ((((w.alloc (.cells #[.int .i64 c.fr, vp, vd, .int .i64 c.mj, vw, .slice A' m cap', .int .i64 c.se, .int .i64 c.qu, .int .i64 c.qt] 27)).alloc (.cells #[.int .i64 (o : Int)] 3)).alloc (.cells #[.int .i64 t] 3)).alloc (.cells #[.func (.func 44) #[] #[]] 81)) = w4 at *
  have hE := cf_Vg A' b a m cap' (w.heap.size + 1 + 1) (w.heap.size + 1 + 1 + 1) w.heap.size (w.heap.size + 1) (fun i => .int .i64 (c.gs.getD i grD).f) (fun i => .int .i64 (c.gs.getD i grD).t) (fun i => .bool (c.gs.getD i grD).wr) (fun i => vgB c o t false (c.gs.getD i grD)) nos
    (fun _ W => Below w4.heap.size w4 W) w4 (by unfold maxLen; omega) hbo
    (fun i W hi hI => by
      obtain ⟨b', o', e, _, q⟩ := grs_at (hgs4.below hI) hgn i hi
      rw [hbo (by omega)] at e
      simp only [Option.some.injEq, Addr.mk.injEq, and_true] at e
      obtain ⟨rfl, rfl⟩ := e
      exact q)
    (fun i W hi _ hI => by
      refine (vg1_r _ _ _ t o _ _ _ _ (hc4.below hI) ho (k2.below hI k2.lt) (k3.below hI k3.lt) (k0.below hI k0.lt) (k1.below hI k1.lt)).mono ?_
      rintro e w' ⟨rfl, hb⟩
      exact ⟨rfl, Below.down hI hb hI.size, Fo.of hb _⟩)
    (Below.refl _ _)
  have e9 : (List.range m).any (fun i => vgB c o t false (c.gs.getD i grD)) = gtB c o t false := by rw [← hgn]; exact any_range c.gs grD _
  rw [e9] at hE
  have HE := Lib.hid hE
  subst hw4
  clear hE e9 b1 b2 b3 b4 k0 k1 k2 k3 hgs4 hgs h hc4 hbo
  generalize gtB c o t false = R at *
  go_enter Try.func43, Try.ntmps43
  go_wp2_with fail
  refine HE.out.mono ?_
  rintro e w5 ⟨rfl, -, hf⟩
  have HB5 := Lib.hid (Below.down HB.out hf.nos HB.out.size)
  clear hf
  go_wp2_with fail
  go_ret
  exact ⟨rfl, HB5.out⟩
set_option maxHeartbeats 1000000 in
theorem vgrants_w {w : World} {c : Cf} {vp vd vw vg : Value} (h : CfAt w vp vd vw vg c) (o : Nat) (t : Int) (ho : o < c.ps.length) :
    Calls Try.prog 43 #[.agg #[.int .i64 c.fr, vp, vd, .int .i64 c.mj, vw, vg, .int .i64 c.se, .int .i64 c.qu, .int .i64 c.qt], .int .i64 o, .int .i64 t, .func (.func 45) #[] #[]] w fun e w' => e = .returned (.bool (gtB c o t true)) ∧ Below w.heap.size w w' := by
  have hgs := h.gs
  have hz := h.gz
  obtain ⟨A', cap', rfl⟩ : ∃ A' cap', vg = .slice A' c.gs.length cap' := by obtain ⟨A', c', e, _⟩ := hgs; exact ⟨A', c', e⟩
  generalize hgn : c.gs.length = m at *
  have b1 : Below w.heap.size w (w.alloc (.cells #[.int .i64 c.fr, vp, vd, .int .i64 c.mj, vw, .slice A' m cap', .int .i64 c.se, .int .i64 c.qu, .int .i64 c.qt] 27)) := (Below.refl _ _).alloc (Nat.le_refl _) _
  have b2 : Below w.heap.size w ((w.alloc (.cells #[.int .i64 c.fr, vp, vd, .int .i64 c.mj, vw, .slice A' m cap', .int .i64 c.se, .int .i64 c.qu, .int .i64 c.qt] 27)).alloc (.cells #[.int .i64 (o : Int)] 3)) := b1.alloc b1.size _
  have b3 : Below w.heap.size w (((w.alloc (.cells #[.int .i64 c.fr, vp, vd, .int .i64 c.mj, vw, .slice A' m cap', .int .i64 c.se, .int .i64 c.qu, .int .i64 c.qt] 27)).alloc (.cells #[.int .i64 (o : Int)] 3)).alloc (.cells #[.int .i64 t] 3)) := b2.alloc b2.size _
  have b4 : Below w.heap.size w ((((w.alloc (.cells #[.int .i64 c.fr, vp, vd, .int .i64 c.mj, vw, .slice A' m cap', .int .i64 c.se, .int .i64 c.qu, .int .i64 c.qt] 27)).alloc (.cells #[.int .i64 (o : Int)] 3)).alloc (.cells #[.int .i64 t] 3)).alloc (.cells #[.func (.func 45) #[] #[]] 81)) := b3.alloc b3.size _
  have k0 : Blk ((((w.alloc (.cells #[.int .i64 c.fr, vp, vd, .int .i64 c.mj, vw, .slice A' m cap', .int .i64 c.se, .int .i64 c.qu, .int .i64 c.qt] 27)).alloc (.cells #[.int .i64 (o : Int)] 3)).alloc (.cells #[.int .i64 t] 3)).alloc (.cells #[.func (.func 45) #[] #[]] 81)) w.heap.size 27 (cfc c vp vd vw (.slice A' m cap')) := (((Blk.new w _ (cfc c vp vd vw (.slice A' m cap'))).alloc _).alloc _).alloc _
  have k1 : Blk ((((w.alloc (.cells #[.int .i64 c.fr, vp, vd, .int .i64 c.mj, vw, .slice A' m cap', .int .i64 c.se, .int .i64 c.qu, .int .i64 c.qt] 27)).alloc (.cells #[.int .i64 (o : Int)] 3)).alloc (.cells #[.int .i64 t] 3)).alloc (.cells #[.func (.func 45) #[] #[]] 81)) (w.heap.size + 1) 3 [.int .i64 (o : Int)] := by
    have := ((Blk.new (w.alloc (.cells #[.int .i64 c.fr, vp, vd, .int .i64 c.mj, vw, .slice A' m cap', .int .i64 c.se, .int .i64 c.qu, .int .i64 c.qt] 27)) 3 [.int .i64 (o : Int)]).alloc (.cells #[.int .i64 t] 3)).alloc (.cells #[.func (.func 45) #[] #[]] 81)
    simpa using this
  have k2 : Blk ((((w.alloc (.cells #[.int .i64 c.fr, vp, vd, .int .i64 c.mj, vw, .slice A' m cap', .int .i64 c.se, .int .i64 c.qu, .int .i64 c.qt] 27)).alloc (.cells #[.int .i64 (o : Int)] 3)).alloc (.cells #[.int .i64 t] 3)).alloc (.cells #[.func (.func 45) #[] #[]] 81)) (w.heap.size + 1 + 1) 3 [.int .i64 t] := by
    have := (Blk.new ((w.alloc (.cells #[.int .i64 c.fr, vp, vd, .int .i64 c.mj, vw, .slice A' m cap', .int .i64 c.se, .int .i64 c.qu, .int .i64 c.qt] 27)).alloc (.cells #[.int .i64 (o : Int)] 3)) 3 [.int .i64 t]).alloc (.cells #[.func (.func 45) #[] #[]] 81)
    simpa using this
  have k3 : Blk ((((w.alloc (.cells #[.int .i64 c.fr, vp, vd, .int .i64 c.mj, vw, .slice A' m cap', .int .i64 c.se, .int .i64 c.qu, .int .i64 c.qt] 27)).alloc (.cells #[.int .i64 (o : Int)] 3)).alloc (.cells #[.int .i64 t] 3)).alloc (.cells #[.func (.func 45) #[] #[]] 81)) (w.heap.size + 1 + 1 + 1) 81 [.func (.func 45) #[] #[]] := by
    have := Blk.new (((w.alloc (.cells #[.int .i64 c.fr, vp, vd, .int .i64 c.mj, vw, .slice A' m cap', .int .i64 c.se, .int .i64 c.qu, .int .i64 c.qt] 27)).alloc (.cells #[.int .i64 (o : Int)] 3)).alloc (.cells #[.int .i64 t] 3)) 81 [.func (.func 45) #[] #[]]
    simpa using this
  have q5 := (cf_at k0).2.2.2.2.2.1
  have HB := Lib.hid b4
  have hgs4 := hgs.below b4
  have hc4 := h.below b4
  obtain ⟨b, a, hbo⟩ : ∃ b a, 0 < m → A' = some ⟨b, a, none⟩ := by
    by_cases h0 : 0 < m
    · obtain ⟨b, a, e, _⟩ := grs_at hgs hgn 0 h0
      exact ⟨b, a, fun _ => e⟩
    · exact ⟨0, 0, fun h => absurd h h0⟩
  generalize hw4 : ((((w.alloc (.cells #[.int .i64 c.fr, vp, vd, .int .i64 c.mj, vw, .slice A' m cap', .int .i64 c.se, .int .i64 c.qu, .int .i64 c.qt] 27)).alloc (.cells #[.int .i64 (o : Int)] 3)).alloc (.cells #[.int .i64 t] 3)).alloc (.cells #[.func (.func 45) #[] #[]] 81)) = w4 at *
  have hE := cf_Vg A' b a m cap' (w.heap.size + 1 + 1) (w.heap.size + 1 + 1 + 1) w.heap.size (w.heap.size + 1) (fun i => .int .i64 (c.gs.getD i grD).f) (fun i => .int .i64 (c.gs.getD i grD).t) (fun i => .bool (c.gs.getD i grD).wr) (fun i => vgB c o t true (c.gs.getD i grD)) nos
    (fun _ W => Below w4.heap.size w4 W) w4 (by unfold maxLen; omega) hbo
    (fun i W hi hI => by
      obtain ⟨b', o', e, _, q⟩ := grs_at (hgs4.below hI) hgn i hi
      rw [hbo (by omega)] at e
      simp only [Option.some.injEq, Addr.mk.injEq, and_true] at e
      obtain ⟨rfl, rfl⟩ := e
      exact q)
    (fun i W hi _ hI => by
      refine (vg1_w _ _ _ t o _ _ _ _ (hc4.below hI) ho (k2.below hI k2.lt) (k3.below hI k3.lt) (k0.below hI k0.lt) (k1.below hI k1.lt)).mono ?_
      rintro e w' ⟨rfl, hb⟩
      exact ⟨rfl, Below.down hI hb hI.size, Fo.of hb _⟩)
    (Below.refl _ _)
  have e9 : (List.range m).any (fun i => vgB c o t true (c.gs.getD i grD)) = gtB c o t true := by rw [← hgn]; exact any_range c.gs grD _
  rw [e9] at hE
  have HE := Lib.hid hE
  subst hw4
  clear hE e9 b1 b2 b3 b4 k0 k1 k2 k3 hgs4 hgs h hc4 hbo
  generalize gtB c o t true = R at *
  go_enter Try.func43, Try.ntmps43
  go_wp2_with fail
  refine HE.out.mono ?_
  rintro e w5 ⟨rfl, -, hf⟩
  have HB5 := Lib.hid (Below.down HB.out hf.nos HB.out.size)
  clear hf
  go_wp2_with fail
  go_ret
  exact ⟨rfl, HB5.out⟩
end Go.Proofs.Ytkaalinoiilmoaa
namespace Go.Proofs.Ytkaalinoiilmoaa
open Go.RowKit
set_option linter.unusedVariables false
set_option linter.unusedSimpArgs false
set_option maxRecDepth 100000
structure VdS (w1 : World) (c : Cf) (vp vd vw vg : Value) (y pb pa i j : Nat) (li ci lj cj : Int) (w' : World) : Prop where
  cb : Blk w' y 27 (cfc c vp vd vw vg)
  ca : CfAt w' vp vd vw vg c
  rows : w'.cell? ⟨pb, pa + i * 5, none⟩ = some (.int .i64 li) ∧ w'.cell? ⟨pb, pa + i * 5 + 1, none⟩ = some (.int .i64 ci) ∧ w'.cell? ⟨pb, pa + j * 5, none⟩ = some (.int .i64 lj) ∧ w'.cell? ⟨pb, pa + j * 5 + 1, none⟩ = some (.int .i64 cj)
  rlt : pb < w'.heap.size
  below : Below w1.heap.size w1 w'
section
variable {w1 w' w2 : World} {c : Cf} {vp vd vw vg : Value} {y pb pa i j : Nat} {li ci lj cj : Int}
theorem VdS.next (h : VdS w1 c vp vd vw vg y pb pa i j li ci lj cj w') (hb : Below w'.heap.size w' w2) : VdS w1 c vp vd vw vg y pb pa i j li ci lj cj w2 := by
  have g := fun x => hb.cell (p := ⟨pb, x, none⟩) h.rlt
  obtain ⟨r0, r1, r2, r3⟩ := h.rows
  exact ⟨h.cb.below hb h.cb.lt, h.ca.below hb, ⟨(g _).trans r0, (g _).trans r1, (g _).trans r2, (g _).trans r3⟩, Nat.lt_of_lt_of_le h.rlt hb.size, Below.down h.below hb h.below.size⟩
theorem VdS.drew (h : VdS w1 c vp vd vw vg y pb pa i j li ci lj cj w') : VdS w1 c vp vd vw vg y pb pa i j li ci lj cj w'.drew := h.next (bdrewN (Below.refl _ _) 1)
theorem VdS.all (h : VdS w1 c vp vd vw vg y pb pa i j li ci lj cj w') : (w'.cell? ⟨y, 0, none⟩ = some (.int .i64 c.fr) ∧ w'.cell? ⟨y, 1, none⟩ = some vp ∧ w'.cell? ⟨y, 2, none⟩ = some vd ∧ w'.cell? ⟨y, 3, none⟩ = some (.int .i64 c.mj) ∧ w'.cell? ⟨y, 4, none⟩ = some vw ∧ w'.cell? ⟨y, 5, none⟩ = some vg ∧ w'.cell? ⟨y, 6, none⟩ = some (.int .i64 c.se) ∧ w'.cell? ⟨y, 7, none⟩ = some (.int .i64 c.qu) ∧ w'.cell? ⟨y, 8, none⟩ = some (.int .i64 c.qt) ∧ w'.cell? ⟨pb, pa + i * 5, none⟩ = some (.int .i64 li) ∧ w'.cell? ⟨pb, pa + i * 5 + 1, none⟩ = some (.int .i64 ci) ∧ w'.cell? ⟨pb, pa + j * 5, none⟩ = some (.int .i64 lj) ∧ w'.cell? ⟨pb, pa + j * 5 + 1, none⟩ = some (.int .i64 cj)) ∧ VdS w1 c vp vd vw vg y pb pa i j li ci lj cj w' := by
  obtain ⟨k0, k1, k2, k3, k4, k5, k6, k7, k8⟩ := cf_at h.cb
  exact ⟨⟨k0, k1, k2, k3, k4, k5, k6, k7, k8, h.rows⟩, h⟩
end
set_option maxHeartbeats 2000000 in
theorem vdirect_any {w : World} {c : Cf} {vp vd vw vg : Value} (hc : CfAt w vp vd vw vg c) (i j : Nat) (hi : i < c.ps.length) (hj : j < c.ps.length) :
    Calls Try.prog 24 #[.agg #[.int .i64 c.fr, vp, vd, .int .i64 c.mj, vw, vg, .int .i64 c.se, .int .i64 c.qu, .int .i64 c.qt], .int .i64 (i : Int), .int .i64 (j : Int)] w fun e w' => e = .returned (.bool (dN c i j)) ∧ Below w.heap.size w w' := by
  obtain ⟨A, cap, pb, pa, sv, rfl, hA, hr⟩ := hc.ps.rows
  obtain ⟨rfl, hpb⟩ := hA (by omega)
  obtain ⟨⟨i0, i1, -, -, -⟩, -⟩ := hr i hi
  obtain ⟨⟨j0, j1, -, -, -⟩, -⟩ := hr j hj
  have hps := hc.pz.1
  obtain ⟨hb, hB⟩ := cf_box w c (.slice (some ⟨pb, pa, none⟩) c.ps.length cap) vd vw vg
  have g := fun x => hB.cell (p := ⟨pb, x, none⟩) hpb
  have hS : VdS (w.alloc (.cells #[.int .i64 c.fr, (.slice (some ⟨pb, pa, none⟩) c.ps.length cap), vd, .int .i64 c.mj, vw, vg, .int .i64 c.se, .int .i64 c.qu, .int .i64 c.qt] 27)) c (.slice (some ⟨pb, pa, none⟩) c.ps.length cap) vd vw vg w.heap.size pb pa i j (c.ps.getD i paD).lv (c.ps.getD i paD).ct (c.ps.getD j paD).lv (c.ps.getD j paD).ct (w.alloc (.cells #[.int .i64 c.fr, (.slice (some ⟨pb, pa, none⟩) c.ps.length cap), vd, .int .i64 c.mj, vw, vg, .int .i64 c.se, .int .i64 c.qu, .int .i64 c.qt] 27)) :=
    ⟨hb, hc.below hB, ⟨(g _).trans i0, (g _).trans i1, (g _).trans j0, (g _).trans j1⟩, Nat.lt_of_lt_of_le hpb hB.size, Below.refl _ _⟩
  have HB := Lib.hid hB
  obtain ⟨Q, hQ⟩ : ∃ Q, dN c i j = Q := ⟨_, rfl⟩
  rw [hQ]
  obtain ⟨L, hL⟩ : ∃ L, ldB c i j = L := ⟨_, rfl⟩
  obtain ⟨G1, hG1⟩ : ∃ G, gtB c i j false = G := ⟨_, rfl⟩
  obtain ⟨G2, hG2⟩ : ∃ G, gtB c j i true = G := ⟨_, rfl⟩
  unfold dN dfB at hQ
  rw [hL, hG1, hG2] at hQ
  unfold ldB at hL
  simp only [Int.toNat_natCast] at hL
  have HQ := Lib.hid hQ; have HL := Lib.hid hL; have HG1 := Lib.hid hG1; have HG2 := Lib.hid hG2
  clear hQ hL hG1 hG2 hB hb g i0 i1 j0 j1 hr hA hc
  generalize (c.ps.getD i paD).lv = li at *
  generalize (c.ps.getD i paD).ct = ci at *
  generalize (c.ps.getD j paD).lv = lj at *
  generalize (c.ps.getD j paD).ct = cj at *
  generalize hn : c.ps.length = n at *
  have HN := Lib.hid hn
  clear hn
  have hii : (i : Int) < (n : Int) := by omega
  have hji : (j : Int) < (n : Int) := by omega
  by_cases he : i = j
  · have HQ9 := Lib.hid (show Q = true by rw [← HQ.out, he]; simp)
    have hee : ((i : Int) == (j : Int)) = true := by rw [he]; simp
    clear he
    go_enter Try.func24, Try.ntmps24
    go_wp2_with fail
    generalize w.alloc (.cells #[.int .i64 c.fr, (.slice (some ⟨pb, pa, none⟩) n cap), vd, .int .i64 c.mj, vw, vg, .int .i64 c.se, .int .i64 c.qu, .int .i64 c.qt] 27) = w1 at *
    generalize hz : w.heap.size = y at *
    refine wp_region_held_drew (S := (fun w' => (w'.cell? ⟨y, 0, none⟩ = some (.int .i64 c.fr) ∧ w'.cell? ⟨y, 1, none⟩ = some (.slice (some ⟨pb, pa, none⟩) n cap) ∧ w'.cell? ⟨y, 2, none⟩ = some vd ∧ w'.cell? ⟨y, 3, none⟩ = some (.int .i64 c.mj) ∧ w'.cell? ⟨y, 4, none⟩ = some vw ∧ w'.cell? ⟨y, 5, none⟩ = some vg ∧ w'.cell? ⟨y, 6, none⟩ = some (.int .i64 c.se) ∧ w'.cell? ⟨y, 7, none⟩ = some (.int .i64 c.qu) ∧ w'.cell? ⟨y, 8, none⟩ = some (.int .i64 c.qt) ∧ w'.cell? ⟨pb, pa + i * 5, none⟩ = some (.int .i64 li) ∧ w'.cell? ⟨pb, pa + i * 5 + 1, none⟩ = some (.int .i64 ci) ∧ w'.cell? ⟨pb, pa + j * 5, none⟩ = some (.int .i64 lj) ∧ w'.cell? ⟨pb, pa + j * 5 + 1, none⟩ = some (.int .i64 cj)) ∧ VdS w1 c (.slice (some ⟨pb, pa, none⟩) n cap) vd vw vg y pb pa i j li ci lj cj w')) (by kernel_rfl) ?_ (fun hHeld => ?_)
    · try dsimp only
      (refine VdS.all ?_; (first | with_reducible assumption | with_reducible exact VdS.drew (by assumption) | with_reducible exact VdS.drew (And.right (by assumption)) | with_reducible exact VdS.next (by assumption) (by assumption) | with_reducible exact VdS.next (And.right (by assumption)) (by assumption)))
    refine wpAnyH_take (i := 0) (v := ?v0zA) rfl (by kernel_rfl) (by kernel_rfl) (by kernel_rfl) (fun _ _ _ h => h) (Or.inl ⟨by rfl, ?hy0zA⟩) (by assumption) ?rest0zA
    case hy0zA => intro w hSw; (try dsimp only at hSw); first | (go_simp; done) | (go_simp; with_reducible rfl)
    try simp only [Act.put, List.getElem_toArray, List.getElem_cons_succ, List.getElem_cons_zero, List.setIfInBounds_toArray, List.set_cons_zero, List.set_cons_succ]
    refine wpAnyH_take (i := 1) (v := ?v1zA) rfl (by kernel_rfl) (by kernel_rfl) (by kernel_rfl) (fun _ _ _ h => h) (Or.inl ⟨by rfl, ?hy1zA⟩) (by assumption) ?rest1zA
    case hy1zA => intro w hSw; (try dsimp only at hSw); first | (go_simp; done) | (go_simp; with_reducible rfl)
    try simp only [Act.put, List.getElem_toArray, List.getElem_cons_succ, List.getElem_cons_zero, List.setIfInBounds_toArray, List.set_cons_zero, List.set_cons_succ]
    refine wpAnyH_take (i := 2) (v := ?v2zA) rfl (by kernel_rfl) (by kernel_rfl) (by kernel_rfl) (fun _ _ _ h => h) (Or.inl ⟨by rfl, ?hy2zA⟩) (by assumption) ?rest2zA
    case hy2zA => intro w hSw; (try dsimp only at hSw); first | (go_simp; done) | (go_simp; with_reducible rfl)
    try simp only [Act.put, List.getElem_toArray, List.getElem_cons_succ, List.getElem_cons_zero, List.setIfInBounds_toArray, List.set_cons_zero, List.set_cons_succ]
    refine wpAnyH_take (i := 3) (v := ?v3zA) rfl (by kernel_rfl) (by kernel_rfl) (by kernel_rfl) (fun _ _ _ h => h) (Or.inl ⟨by rfl, ?hy3zA⟩) (by assumption) ?rest3zA
    case hy3zA => intro w hSw; (try dsimp only at hSw); first | (go_simp; done) | (go_simp; with_reducible rfl)
    try simp only [Act.put, List.getElem_toArray, List.getElem_cons_succ, List.getElem_cons_zero, List.setIfInBounds_toArray, List.set_cons_zero, List.set_cons_succ]
    refine wpAnyH_take (i := 4) (v := undef) rfl (by kernel_rfl) (by kernel_rfl) (by kernel_rfl) (fun _ _ _ h => h) (Or.inr ⟨by rfl, rfl⟩) (by assumption) ?rest4zA
    try simp only [Act.put, List.getElem_toArray, List.getElem_cons_succ, List.getElem_cons_zero, List.setIfInBounds_toArray, List.set_cons_zero, List.set_cons_succ]
    refine wpAnyH_take (i := 5) (v := undef) rfl (by kernel_rfl) (by kernel_rfl) (by kernel_rfl) (fun _ _ _ h => h) (Or.inr ⟨by rfl, rfl⟩) (by assumption) ?rest5zA
    try simp only [Act.put, List.getElem_toArray, List.getElem_cons_succ, List.getElem_cons_zero, List.setIfInBounds_toArray, List.set_cons_zero, List.set_cons_succ]
    refine wpAnyH_take (i := 6) (v := undef) rfl (by kernel_rfl) (by kernel_rfl) (by kernel_rfl) (fun _ _ _ h => h) (Or.inr ⟨by rfl, rfl⟩) (by assumption) ?rest6zA
    try simp only [Act.put, List.getElem_toArray, List.getElem_cons_succ, List.getElem_cons_zero, List.setIfInBounds_toArray, List.set_cons_zero, List.set_cons_succ]
    refine wpAnyH_take (i := 7) (v := undef) rfl (by kernel_rfl) (by kernel_rfl) (by kernel_rfl) (fun _ _ _ h => h) (Or.inr ⟨by rfl, rfl⟩) (by assumption) ?rest7zA
    try simp only [Act.put, List.getElem_toArray, List.getElem_cons_succ, List.getElem_cons_zero, List.setIfInBounds_toArray, List.set_cons_zero, List.set_cons_succ]
    refine wpAnyH_take (i := 8) (v := undef) rfl (by kernel_rfl) (by kernel_rfl) (by kernel_rfl) (fun _ _ _ h => h) (Or.inr ⟨by rfl, rfl⟩) (by assumption) ?rest8zA
    try simp only [Act.put, List.getElem_toArray, List.getElem_cons_succ, List.getElem_cons_zero, List.setIfInBounds_toArray, List.set_cons_zero, List.set_cons_succ]
    refine wpAnyH_take (i := 9) (v := undef) rfl (by kernel_rfl) (by kernel_rfl) (by kernel_rfl) (fun _ _ _ h => h) (Or.inr ⟨by rfl, rfl⟩) (by assumption) ?rest9zA
    try simp only [Act.put, List.getElem_toArray, List.getElem_cons_succ, List.getElem_cons_zero, List.setIfInBounds_toArray, List.set_cons_zero, List.set_cons_succ]
    refine wpAnyH_take (i := 10) (v := undef) rfl (by kernel_rfl) (by kernel_rfl) (by kernel_rfl) (fun _ _ _ h => h) (Or.inr ⟨by rfl, rfl⟩) (by assumption) ?rest10zA
    try simp only [Act.put, List.getElem_toArray, List.getElem_cons_succ, List.getElem_cons_zero, List.setIfInBounds_toArray, List.set_cons_zero, List.set_cons_succ]
    refine wpAnyH_take (i := 11) (v := undef) rfl (by kernel_rfl) (by kernel_rfl) (by kernel_rfl) (fun _ _ _ h => h) (Or.inr ⟨by rfl, rfl⟩) (by assumption) ?rest11zA
    try simp only [Act.put, List.getElem_toArray, List.getElem_cons_succ, List.getElem_cons_zero, List.setIfInBounds_toArray, List.set_cons_zero, List.set_cons_succ]
    refine wpAnyH_take (i := 12) (v := undef) rfl (by kernel_rfl) (by kernel_rfl) (by kernel_rfl) (fun _ _ _ h => h) (Or.inr ⟨by rfl, rfl⟩) (by assumption) ?rest12zA
    try simp only [Act.put, List.getElem_toArray, List.getElem_cons_succ, List.getElem_cons_zero, List.setIfInBounds_toArray, List.set_cons_zero, List.set_cons_succ]
    refine wpAnyH_take (i := 13) (v := undef) rfl (by kernel_rfl) (by kernel_rfl) (by kernel_rfl) (fun _ _ _ h => h) (Or.inr ⟨by rfl, rfl⟩) (by assumption) ?rest13zA
    try simp only [Act.put, List.getElem_toArray, List.getElem_cons_succ, List.getElem_cons_zero, List.setIfInBounds_toArray, List.set_cons_zero, List.set_cons_succ]
    refine wpAnyH_take (i := 14) (v := undef) rfl (by kernel_rfl) (by kernel_rfl) (by kernel_rfl) (fun _ _ _ h => h) (Or.inr ⟨by rfl, rfl⟩) (by assumption) ?rest14zA
    try simp only [Act.put, List.getElem_toArray, List.getElem_cons_succ, List.getElem_cons_zero, List.setIfInBounds_toArray, List.set_cons_zero, List.set_cons_succ]
    refine wpAnyH_take (i := 15) (v := undef) rfl (by kernel_rfl) (by kernel_rfl) (by kernel_rfl) (fun _ _ _ h => h) (Or.inr ⟨by rfl, rfl⟩) (by assumption) ?rest15zA
    try simp only [Act.put, List.getElem_toArray, List.getElem_cons_succ, List.getElem_cons_zero, List.setIfInBounds_toArray, List.set_cons_zero, List.set_cons_succ]
    refine wpAnyH_take (i := 16) (v := undef) rfl (by kernel_rfl) (by kernel_rfl) (by kernel_rfl) (fun _ _ _ h => h) (Or.inr ⟨by rfl, rfl⟩) (by assumption) ?rest16zA
    try simp only [Act.put, List.getElem_toArray, List.getElem_cons_succ, List.getElem_cons_zero, List.setIfInBounds_toArray, List.set_cons_zero, List.set_cons_succ]
    refine wpAnyH_take (i := 17) (v := ?v17zA) rfl (by kernel_rfl) (by kernel_rfl) (by kernel_rfl) (fun _ _ _ h => h) (Or.inl ⟨by rfl, ?hy17zA⟩) (by assumption) ?rest17zA
    case hy17zA => intro w hSw; (try dsimp only at hSw); first | (go_simp; done) | (go_simp; with_reducible rfl)
    try simp only [Act.put, List.getElem_toArray, List.getElem_cons_succ, List.getElem_cons_zero, List.setIfInBounds_toArray, List.set_cons_zero, List.set_cons_succ]
    refine wpAnyH_take (i := 18) (v := ?v18zA) rfl (by kernel_rfl) (by kernel_rfl) (by kernel_rfl) (fun _ _ _ h => h) (Or.inl ⟨by rfl, ?hy18zA⟩) (by assumption) ?rest18zA
    case hy18zA => intro w hSw; (try dsimp only at hSw); first | (go_simp; done) | (go_simp; with_reducible rfl)
    try simp only [Act.put, List.getElem_toArray, List.getElem_cons_succ, List.getElem_cons_zero, List.setIfInBounds_toArray, List.set_cons_zero, List.set_cons_succ]
    refine wpAnyH_take (i := 19) (v := undef) rfl (by kernel_rfl) (by kernel_rfl) (by kernel_rfl) (fun _ _ _ h => h) (Or.inr ⟨by rfl, rfl⟩) (by assumption) ?rest19zA
    try simp only [Act.put, List.getElem_toArray, List.getElem_cons_succ, List.getElem_cons_zero, List.setIfInBounds_toArray, List.set_cons_zero, List.set_cons_succ]
    refine wpAnyH_take (i := 20) (v := undef) rfl (by kernel_rfl) (by kernel_rfl) (by kernel_rfl) (fun _ _ _ h => h) (Or.inr ⟨by rfl, rfl⟩) (by assumption) ?rest20zA
    try simp only [Act.put, List.getElem_toArray, List.getElem_cons_succ, List.getElem_cons_zero, List.setIfInBounds_toArray, List.set_cons_zero, List.set_cons_succ]
    refine wpAnyH_take (i := 21) (v := undef) rfl (by kernel_rfl) (by kernel_rfl) (by kernel_rfl) (fun _ _ _ h => h) (Or.inr ⟨by rfl, rfl⟩) (by assumption) ?rest21zA
    try simp only [Act.put, List.getElem_toArray, List.getElem_cons_succ, List.getElem_cons_zero, List.setIfInBounds_toArray, List.set_cons_zero, List.set_cons_succ]
    refine wpAnyH_take (i := 22) (v := undef) rfl (by kernel_rfl) (by kernel_rfl) (by kernel_rfl) (fun _ _ _ h => h) (Or.inr ⟨by rfl, rfl⟩) (by assumption) ?rest22zA
    try simp only [Act.put, List.getElem_toArray, List.getElem_cons_succ, List.getElem_cons_zero, List.setIfInBounds_toArray, List.set_cons_zero, List.set_cons_succ]
    refine wpAnyH_take (i := 23) (v := ?v23zA) rfl (by kernel_rfl) (by kernel_rfl) (by kernel_rfl) (fun _ _ _ h => h) (Or.inl ⟨by rfl, ?hy23zA⟩) (by assumption) ?rest23zA
    case hy23zA => intro w hSw; (try dsimp only at hSw); first | (go_simp; done) | (go_simp; with_reducible rfl)
    try simp only [Act.put, List.getElem_toArray, List.getElem_cons_succ, List.getElem_cons_zero, List.setIfInBounds_toArray, List.set_cons_zero, List.set_cons_succ]
    refine wpAnyH_take (i := 24) (v := ?v24zA) rfl (by kernel_rfl) (by kernel_rfl) (by kernel_rfl) (fun _ _ _ h => h) (Or.inl ⟨by rfl, ?hy24zA⟩) (by assumption) ?rest24zA
    case hy24zA => intro w hSw; (try dsimp only at hSw); first | (go_simp; done) | (go_simp; with_reducible rfl)
    try simp only [Act.put, List.getElem_toArray, List.getElem_cons_succ, List.getElem_cons_zero, List.setIfInBounds_toArray, List.set_cons_zero, List.set_cons_succ]
    refine wpAnyH_take (i := 25) (v := undef) rfl (by kernel_rfl) (by kernel_rfl) (by kernel_rfl) (fun _ _ _ h => h) (Or.inr ⟨by rfl, rfl⟩) (by assumption) ?rest25zA
    try simp only [Act.put, List.getElem_toArray, List.getElem_cons_succ, List.getElem_cons_zero, List.setIfInBounds_toArray, List.set_cons_zero, List.set_cons_succ]
    refine wpAnyH_take (i := 26) (v := undef) rfl (by kernel_rfl) (by kernel_rfl) (by kernel_rfl) (fun _ _ _ h => h) (Or.inr ⟨by rfl, rfl⟩) (by assumption) ?rest26zA
    try simp only [Act.put, List.getElem_toArray, List.getElem_cons_succ, List.getElem_cons_zero, List.setIfInBounds_toArray, List.set_cons_zero, List.set_cons_succ]
    refine wpAnyH_take (i := 27) (v := undef) rfl (by kernel_rfl) (by kernel_rfl) (by kernel_rfl) (fun _ _ _ h => h) (Or.inr ⟨by rfl, rfl⟩) (by assumption) ?rest27zA
    try simp only [Act.put, List.getElem_toArray, List.getElem_cons_succ, List.getElem_cons_zero, List.setIfInBounds_toArray, List.set_cons_zero, List.set_cons_succ]
    refine wpAnyH_take (i := 28) (v := undef) rfl (by kernel_rfl) (by kernel_rfl) (by kernel_rfl) (fun _ _ _ h => h) (Or.inr ⟨by rfl, rfl⟩) (by assumption) ?rest28zA
    try simp only [Act.put, List.getElem_toArray, List.getElem_cons_succ, List.getElem_cons_zero, List.setIfInBounds_toArray, List.set_cons_zero, List.set_cons_succ]
    refine wpAnyH_take (i := 29) (v := ?v29zA) rfl (by kernel_rfl) (by kernel_rfl) (by kernel_rfl) (fun _ _ _ h => h) (Or.inl ⟨by rfl, ?hy29zA⟩) (by assumption) ?rest29zA
    case hy29zA => intro w hSw; (try dsimp only at hSw); first | (go_simp; done) | (go_simp; with_reducible rfl)
    try simp only [Act.put, List.getElem_toArray, List.getElem_cons_succ, List.getElem_cons_zero, List.setIfInBounds_toArray, List.set_cons_zero, List.set_cons_succ]
    refine wpAnyH_take (i := 30) (v := ?v30zA) rfl (by kernel_rfl) (by kernel_rfl) (by kernel_rfl) (fun _ _ _ h => h) (Or.inl ⟨by rfl, ?hy30zA⟩) (by assumption) ?rest30zA
    case hy30zA => intro w hSw; (try dsimp only at hSw); first | (go_simp; done) | (go_simp; with_reducible rfl)
    try simp only [Act.put, List.getElem_toArray, List.getElem_cons_succ, List.getElem_cons_zero, List.setIfInBounds_toArray, List.set_cons_zero, List.set_cons_succ]
    refine wpAnyH_done (by kernel_rfl) ?_ _
    all_goals
      have HS9 := Lib.hid hHeld.2.below
      clear hHeld
      go_wp2_with fail
      go_ret
      exact ⟨by rw [HQ9.out]; rfl, by rw [hz]; exact Below.down HB.out HS9.out (by have := HB.out.size; omega)⟩
  · have hee : ((i : Int) == (j : Int)) = false := beq_eq_false_iff_ne.2 (by omega)
    have hd : decide ((i : Int) = (j : Int)) = false := decide_eq_false (by omega)
    rw [hd, Bool.false_or] at HQ
    clear he hd
    cases L with
    | true =>
      have HQ9 := Lib.hid (show Q = true by rw [← HQ.out]; rfl)
      go_enter Try.func24, Try.ntmps24
      go_wp2_with fail
      generalize w.alloc (.cells #[.int .i64 c.fr, (.slice (some ⟨pb, pa, none⟩) n cap), vd, .int .i64 c.mj, vw, vg, .int .i64 c.se, .int .i64 c.qu, .int .i64 c.qt] 27) = w1 at *
      generalize hz : w.heap.size = y at *
      refine wp_region_held_drew (S := (fun w' => (w'.cell? ⟨y, 0, none⟩ = some (.int .i64 c.fr) ∧ w'.cell? ⟨y, 1, none⟩ = some (.slice (some ⟨pb, pa, none⟩) n cap) ∧ w'.cell? ⟨y, 2, none⟩ = some vd ∧ w'.cell? ⟨y, 3, none⟩ = some (.int .i64 c.mj) ∧ w'.cell? ⟨y, 4, none⟩ = some vw ∧ w'.cell? ⟨y, 5, none⟩ = some vg ∧ w'.cell? ⟨y, 6, none⟩ = some (.int .i64 c.se) ∧ w'.cell? ⟨y, 7, none⟩ = some (.int .i64 c.qu) ∧ w'.cell? ⟨y, 8, none⟩ = some (.int .i64 c.qt) ∧ w'.cell? ⟨pb, pa + i * 5, none⟩ = some (.int .i64 li) ∧ w'.cell? ⟨pb, pa + i * 5 + 1, none⟩ = some (.int .i64 ci) ∧ w'.cell? ⟨pb, pa + j * 5, none⟩ = some (.int .i64 lj) ∧ w'.cell? ⟨pb, pa + j * 5 + 1, none⟩ = some (.int .i64 cj)) ∧ VdS w1 c (.slice (some ⟨pb, pa, none⟩) n cap) vd vw vg y pb pa i j li ci lj cj w')) (by kernel_rfl) ?_ (fun hHeld => ?_)
      · try dsimp only
        (refine VdS.all ?_; (first | with_reducible assumption | with_reducible exact VdS.drew (by assumption) | with_reducible exact VdS.drew (And.right (by assumption)) | with_reducible exact VdS.next (by assumption) (by assumption) | with_reducible exact VdS.next (And.right (by assumption)) (by assumption)))
      refine wpAnyH_take (i := 0) (v := ?v0zB) rfl (by kernel_rfl) (by kernel_rfl) (by kernel_rfl) (fun _ _ _ h => h) (Or.inl ⟨by rfl, ?hy0zB⟩) (by assumption) ?rest0zB
      case hy0zB => intro w hSw; (try dsimp only at hSw); first | (go_simp; done) | (go_simp; with_reducible rfl)
      try simp only [Act.put, List.getElem_toArray, List.getElem_cons_succ, List.getElem_cons_zero, List.setIfInBounds_toArray, List.set_cons_zero, List.set_cons_succ]
      refine wpAnyH_take (i := 1) (v := ?v1zB) rfl (by kernel_rfl) (by kernel_rfl) (by kernel_rfl) (fun _ _ _ h => h) (Or.inl ⟨by rfl, ?hy1zB⟩) (by assumption) ?rest1zB
      case hy1zB => intro w hSw; (try dsimp only at hSw); first | (go_simp; done) | (go_simp; with_reducible rfl)
      try simp only [Act.put, List.getElem_toArray, List.getElem_cons_succ, List.getElem_cons_zero, List.setIfInBounds_toArray, List.set_cons_zero, List.set_cons_succ]
      refine wpAnyH_take (i := 2) (v := ?v2zB) rfl (by kernel_rfl) (by kernel_rfl) (by kernel_rfl) (fun _ _ _ h => h) (Or.inl ⟨by rfl, ?hy2zB⟩) (by assumption) ?rest2zB
      case hy2zB => intro w hSw; (try dsimp only at hSw); first | (go_simp; done) | (go_simp; with_reducible rfl)
      try simp only [Act.put, List.getElem_toArray, List.getElem_cons_succ, List.getElem_cons_zero, List.setIfInBounds_toArray, List.set_cons_zero, List.set_cons_succ]
      refine wpAnyH_take (i := 3) (v := ?v3zB) rfl (by kernel_rfl) (by kernel_rfl) (by kernel_rfl) (fun _ _ _ h => h) (Or.inl ⟨by rfl, ?hy3zB⟩) (by assumption) ?rest3zB
      case hy3zB => intro w hSw; (try dsimp only at hSw); first | (go_simp; done) | (go_simp; with_reducible rfl)
      try simp only [Act.put, List.getElem_toArray, List.getElem_cons_succ, List.getElem_cons_zero, List.setIfInBounds_toArray, List.set_cons_zero, List.set_cons_succ]
      refine wpAnyH_take (i := 4) (v := ?v4zB) rfl (by kernel_rfl) (by kernel_rfl) (by kernel_rfl) (fun _ _ _ h => h) (Or.inl ⟨by rfl, ?hy4zB⟩) (by assumption) ?rest4zB
      case hy4zB => intro w hSw; (try dsimp only at hSw); first | (go_simp; done) | (go_simp; with_reducible rfl)
      try simp only [Act.put, List.getElem_toArray, List.getElem_cons_succ, List.getElem_cons_zero, List.setIfInBounds_toArray, List.set_cons_zero, List.set_cons_succ]
      refine wpAnyH_take (i := 5) (v := ?v5zB) rfl (by kernel_rfl) (by kernel_rfl) (by kernel_rfl) (fun _ _ _ h => h) (Or.inl ⟨by rfl, ?hy5zB⟩) (by assumption) ?rest5zB
      case hy5zB => intro w hSw; (try dsimp only at hSw); first | (go_simp; done) | (go_simp; with_reducible rfl)
      try simp only [Act.put, List.getElem_toArray, List.getElem_cons_succ, List.getElem_cons_zero, List.setIfInBounds_toArray, List.set_cons_zero, List.set_cons_succ]
      refine wpAnyH_take (i := 6) (v := ?v6zB) rfl (by kernel_rfl) (by kernel_rfl) (by kernel_rfl) (fun _ _ _ h => h) (Or.inl ⟨by rfl, ?hy6zB⟩) (by assumption) ?rest6zB
      case hy6zB => intro w hSw; (try dsimp only at hSw); first | (go_simp; done) | (go_simp; with_reducible rfl)
      try simp only [Act.put, List.getElem_toArray, List.getElem_cons_succ, List.getElem_cons_zero, List.setIfInBounds_toArray, List.set_cons_zero, List.set_cons_succ]
      refine wpAnyH_take (i := 7) (v := ?v7zB) rfl (by kernel_rfl) (by kernel_rfl) (by kernel_rfl) (fun _ _ _ h => h) (Or.inl ⟨by rfl, ?hy7zB⟩) (by assumption) ?rest7zB
      case hy7zB => intro w hSw; (try dsimp only at hSw); first | (go_simp; done) | (go_simp; with_reducible rfl)
      try simp only [Act.put, List.getElem_toArray, List.getElem_cons_succ, List.getElem_cons_zero, List.setIfInBounds_toArray, List.set_cons_zero, List.set_cons_succ]
      refine wpAnyH_take (i := 8) (v := ?v8zB) rfl (by kernel_rfl) (by kernel_rfl) (by kernel_rfl) (fun _ _ _ h => h) (Or.inl ⟨by rfl, ?hy8zB⟩) (by assumption) ?rest8zB
      case hy8zB => intro w hSw; (try dsimp only at hSw); first | (go_simp; done) | (go_simp; with_reducible rfl)
      try simp only [Act.put, List.getElem_toArray, List.getElem_cons_succ, List.getElem_cons_zero, List.setIfInBounds_toArray, List.set_cons_zero, List.set_cons_succ]
      refine wpAnyH_take (i := 9) (v := ?v9zB) rfl (by kernel_rfl) (by kernel_rfl) (by kernel_rfl) (fun _ _ _ h => h) (Or.inl ⟨by rfl, ?hy9zB⟩) (by assumption) ?rest9zB
      case hy9zB => intro w hSw; (try dsimp only at hSw); first | (go_simp; done) | (go_simp; with_reducible rfl)
      try simp only [Act.put, List.getElem_toArray, List.getElem_cons_succ, List.getElem_cons_zero, List.setIfInBounds_toArray, List.set_cons_zero, List.set_cons_succ]
      refine wpAnyH_take (i := 10) (v := ?v10zB) rfl (by kernel_rfl) (by kernel_rfl) (by kernel_rfl) (fun _ _ _ h => h) (Or.inl ⟨by rfl, ?hy10zB⟩) (by assumption) ?rest10zB
      case hy10zB => intro w hSw; (try dsimp only at hSw); first | (go_simp; done) | (go_simp; with_reducible rfl)
      try simp only [Act.put, List.getElem_toArray, List.getElem_cons_succ, List.getElem_cons_zero, List.setIfInBounds_toArray, List.set_cons_zero, List.set_cons_succ]
      refine wpAnyH_take (i := 11) (v := ?v11zB) rfl (by kernel_rfl) (by kernel_rfl) (by kernel_rfl) (fun _ _ _ h => h) (Or.inl ⟨by rfl, ?hy11zB⟩) (by assumption) ?rest11zB
      case hy11zB => intro w hSw; (try dsimp only at hSw); first | (go_simp; done) | (go_simp; with_reducible rfl)
      try simp only [Act.put, List.getElem_toArray, List.getElem_cons_succ, List.getElem_cons_zero, List.setIfInBounds_toArray, List.set_cons_zero, List.set_cons_succ]
      refine wpAnyH_take (i := 12) (v := ?v12zB) rfl (by kernel_rfl) (by kernel_rfl) (by kernel_rfl) (fun _ _ _ h => h) (Or.inl ⟨by rfl, ?hy12zB⟩) (by assumption) ?rest12zB
      case hy12zB => intro w hSw; (try dsimp only at hSw); first | (go_simp; done) | (go_simp; with_reducible rfl)
      try simp only [Act.put, List.getElem_toArray, List.getElem_cons_succ, List.getElem_cons_zero, List.setIfInBounds_toArray, List.set_cons_zero, List.set_cons_succ]
      refine wpAnyH_take (i := 13) (v := ?v13zB) rfl (by kernel_rfl) (by kernel_rfl) (by kernel_rfl) (fun _ _ _ h => h) (Or.inl ⟨by rfl, ?hy13zB⟩) (by assumption) ?rest13zB
      case hy13zB => intro w hSw; (try dsimp only at hSw); first | (go_simp; done) | (go_simp; with_reducible rfl)
      try simp only [Act.put, List.getElem_toArray, List.getElem_cons_succ, List.getElem_cons_zero, List.setIfInBounds_toArray, List.set_cons_zero, List.set_cons_succ]
      refine wpAnyH_take (i := 14) (v := ?v14zB) rfl (by kernel_rfl) (by kernel_rfl) (by kernel_rfl) (fun _ _ _ h => h) (Or.inl ⟨by rfl, ?hy14zB⟩) (by assumption) ?rest14zB
      case hy14zB => intro w hSw; (try dsimp only at hSw); first | (go_simp; done) | (go_simp; with_reducible rfl)
      try simp only [Act.put, List.getElem_toArray, List.getElem_cons_succ, List.getElem_cons_zero, List.setIfInBounds_toArray, List.set_cons_zero, List.set_cons_succ]
      refine wpAnyH_take (i := 15) (v := ?v15zB) rfl (by kernel_rfl) (by kernel_rfl) (by kernel_rfl) (fun _ _ _ h => h) (Or.inl ⟨by rfl, ?hy15zB⟩) (by assumption) ?rest15zB
      case hy15zB => intro w hSw; (try dsimp only at hSw); first | (go_simp; done) | (go_simp; with_reducible rfl)
      try simp only [Act.put, List.getElem_toArray, List.getElem_cons_succ, List.getElem_cons_zero, List.setIfInBounds_toArray, List.set_cons_zero, List.set_cons_succ]
      refine wpAnyH_ready (rs := [16]) (by kernel_rfl) (by simp) ?_
      refine AllReadyH.cons rfl (fun K hK => ?_) AllReadyH.nil
      go_simp
      refine (ldom_any _ _ _ _ _).mono ?_
      rintro e w5 ⟨rfl, hb5⟩
      rw [HL.out]
      go_wp2_with fail
      refine hK.out _ _ ?_ (fun hHeld2 => ?_)
      · try dsimp only
        (refine VdS.all ?_; (first | with_reducible assumption | with_reducible exact VdS.drew (by assumption) | with_reducible exact VdS.drew (And.right (by assumption)) | with_reducible exact VdS.next (by assumption) (by assumption) | with_reducible exact VdS.next (And.right (by assumption)) (by assumption)))
      clear hK K hHeld
      have hHeld := hHeld2; clear hHeld2
      try simp only [Act.put, List.getElem_toArray, List.getElem_cons_succ, List.getElem_cons_zero, List.setIfInBounds_toArray, List.set_cons_zero, List.set_cons_succ]
      refine wpAnyH_take (i := 17) (v := ?v17zB) rfl (by kernel_rfl) (by kernel_rfl) (by kernel_rfl) (fun _ _ _ h => h) (Or.inl ⟨by rfl, ?hy17zB⟩) (by assumption) ?rest17zB
      case hy17zB => intro w hSw; (try dsimp only at hSw); first | (go_simp; done) | (go_simp; with_reducible rfl)
      try simp only [Act.put, List.getElem_toArray, List.getElem_cons_succ, List.getElem_cons_zero, List.setIfInBounds_toArray, List.set_cons_zero, List.set_cons_succ]
      refine wpAnyH_take (i := 18) (v := ?v18zB) rfl (by kernel_rfl) (by kernel_rfl) (by kernel_rfl) (fun _ _ _ h => h) (Or.inl ⟨by rfl, ?hy18zB⟩) (by assumption) ?rest18zB
      case hy18zB => intro w hSw; (try dsimp only at hSw); first | (go_simp; done) | (go_simp; with_reducible rfl)
      try simp only [Act.put, List.getElem_toArray, List.getElem_cons_succ, List.getElem_cons_zero, List.setIfInBounds_toArray, List.set_cons_zero, List.set_cons_succ]
      refine wpAnyH_take (i := 19) (v := undef) rfl (by kernel_rfl) (by kernel_rfl) (by kernel_rfl) (fun _ _ _ h => h) (Or.inr ⟨by rfl, rfl⟩) (by assumption) ?rest19zB
      try simp only [Act.put, List.getElem_toArray, List.getElem_cons_succ, List.getElem_cons_zero, List.setIfInBounds_toArray, List.set_cons_zero, List.set_cons_succ]
      refine wpAnyH_take (i := 20) (v := undef) rfl (by kernel_rfl) (by kernel_rfl) (by kernel_rfl) (fun _ _ _ h => h) (Or.inr ⟨by rfl, rfl⟩) (by assumption) ?rest20zB
      try simp only [Act.put, List.getElem_toArray, List.getElem_cons_succ, List.getElem_cons_zero, List.setIfInBounds_toArray, List.set_cons_zero, List.set_cons_succ]
      refine wpAnyH_take (i := 21) (v := undef) rfl (by kernel_rfl) (by kernel_rfl) (by kernel_rfl) (fun _ _ _ h => h) (Or.inr ⟨by rfl, rfl⟩) (by assumption) ?rest21zB
      try simp only [Act.put, List.getElem_toArray, List.getElem_cons_succ, List.getElem_cons_zero, List.setIfInBounds_toArray, List.set_cons_zero, List.set_cons_succ]
      refine wpAnyH_take (i := 22) (v := undef) rfl (by kernel_rfl) (by kernel_rfl) (by kernel_rfl) (fun _ _ _ h => h) (Or.inr ⟨by rfl, rfl⟩) (by assumption) ?rest22zB
      try simp only [Act.put, List.getElem_toArray, List.getElem_cons_succ, List.getElem_cons_zero, List.setIfInBounds_toArray, List.set_cons_zero, List.set_cons_succ]
      refine wpAnyH_take (i := 23) (v := ?v23zB) rfl (by kernel_rfl) (by kernel_rfl) (by kernel_rfl) (fun _ _ _ h => h) (Or.inl ⟨by rfl, ?hy23zB⟩) (by assumption) ?rest23zB
      case hy23zB => intro w hSw; (try dsimp only at hSw); first | (go_simp; done) | (go_simp; with_reducible rfl)
      try simp only [Act.put, List.getElem_toArray, List.getElem_cons_succ, List.getElem_cons_zero, List.setIfInBounds_toArray, List.set_cons_zero, List.set_cons_succ]
      refine wpAnyH_take (i := 24) (v := ?v24zB) rfl (by kernel_rfl) (by kernel_rfl) (by kernel_rfl) (fun _ _ _ h => h) (Or.inl ⟨by rfl, ?hy24zB⟩) (by assumption) ?rest24zB
      case hy24zB => intro w hSw; (try dsimp only at hSw); first | (go_simp; done) | (go_simp; with_reducible rfl)
      try simp only [Act.put, List.getElem_toArray, List.getElem_cons_succ, List.getElem_cons_zero, List.setIfInBounds_toArray, List.set_cons_zero, List.set_cons_succ]
      refine wpAnyH_take (i := 25) (v := undef) rfl (by kernel_rfl) (by kernel_rfl) (by kernel_rfl) (fun _ _ _ h => h) (Or.inr ⟨by rfl, rfl⟩) (by assumption) ?rest25zB
      try simp only [Act.put, List.getElem_toArray, List.getElem_cons_succ, List.getElem_cons_zero, List.setIfInBounds_toArray, List.set_cons_zero, List.set_cons_succ]
      refine wpAnyH_take (i := 26) (v := undef) rfl (by kernel_rfl) (by kernel_rfl) (by kernel_rfl) (fun _ _ _ h => h) (Or.inr ⟨by rfl, rfl⟩) (by assumption) ?rest26zB
      try simp only [Act.put, List.getElem_toArray, List.getElem_cons_succ, List.getElem_cons_zero, List.setIfInBounds_toArray, List.set_cons_zero, List.set_cons_succ]
      refine wpAnyH_take (i := 27) (v := undef) rfl (by kernel_rfl) (by kernel_rfl) (by kernel_rfl) (fun _ _ _ h => h) (Or.inr ⟨by rfl, rfl⟩) (by assumption) ?rest27zB
      try simp only [Act.put, List.getElem_toArray, List.getElem_cons_succ, List.getElem_cons_zero, List.setIfInBounds_toArray, List.set_cons_zero, List.set_cons_succ]
      refine wpAnyH_take (i := 28) (v := undef) rfl (by kernel_rfl) (by kernel_rfl) (by kernel_rfl) (fun _ _ _ h => h) (Or.inr ⟨by rfl, rfl⟩) (by assumption) ?rest28zB
      try simp only [Act.put, List.getElem_toArray, List.getElem_cons_succ, List.getElem_cons_zero, List.setIfInBounds_toArray, List.set_cons_zero, List.set_cons_succ]
      refine wpAnyH_take (i := 29) (v := ?v29zB) rfl (by kernel_rfl) (by kernel_rfl) (by kernel_rfl) (fun _ _ _ h => h) (Or.inl ⟨by rfl, ?hy29zB⟩) (by assumption) ?rest29zB
      case hy29zB => intro w hSw; (try dsimp only at hSw); first | (go_simp; done) | (go_simp; with_reducible rfl)
      try simp only [Act.put, List.getElem_toArray, List.getElem_cons_succ, List.getElem_cons_zero, List.setIfInBounds_toArray, List.set_cons_zero, List.set_cons_succ]
      refine wpAnyH_take (i := 30) (v := ?v30zB) rfl (by kernel_rfl) (by kernel_rfl) (by kernel_rfl) (fun _ _ _ h => h) (Or.inl ⟨by rfl, ?hy30zB⟩) (by assumption) ?rest30zB
      case hy30zB => intro w hSw; (try dsimp only at hSw); first | (go_simp; done) | (go_simp; with_reducible rfl)
      try simp only [Act.put, List.getElem_toArray, List.getElem_cons_succ, List.getElem_cons_zero, List.setIfInBounds_toArray, List.set_cons_zero, List.set_cons_succ]
      refine wpAnyH_done (by kernel_rfl) ?_ _
      all_goals
        have HS9 := Lib.hid hHeld.2.below
        clear hHeld
        go_wp2_with fail
        go_ret
        exact ⟨by rw [HQ9.out]; rfl, by rw [hz]; exact Below.down HB.out HS9.out (by have := HB.out.size; omega)⟩
    | false =>
      cases G1 with
      | true =>
        have HQ9 := Lib.hid (show Q = true by rw [← HQ.out]; rfl)
        go_enter Try.func24, Try.ntmps24
        go_wp2_with fail
        generalize w.alloc (.cells #[.int .i64 c.fr, (.slice (some ⟨pb, pa, none⟩) n cap), vd, .int .i64 c.mj, vw, vg, .int .i64 c.se, .int .i64 c.qu, .int .i64 c.qt] 27) = w1 at *
        generalize hz : w.heap.size = y at *
        refine wp_region_held_drew (S := (fun w' => (w'.cell? ⟨y, 0, none⟩ = some (.int .i64 c.fr) ∧ w'.cell? ⟨y, 1, none⟩ = some (.slice (some ⟨pb, pa, none⟩) n cap) ∧ w'.cell? ⟨y, 2, none⟩ = some vd ∧ w'.cell? ⟨y, 3, none⟩ = some (.int .i64 c.mj) ∧ w'.cell? ⟨y, 4, none⟩ = some vw ∧ w'.cell? ⟨y, 5, none⟩ = some vg ∧ w'.cell? ⟨y, 6, none⟩ = some (.int .i64 c.se) ∧ w'.cell? ⟨y, 7, none⟩ = some (.int .i64 c.qu) ∧ w'.cell? ⟨y, 8, none⟩ = some (.int .i64 c.qt) ∧ w'.cell? ⟨pb, pa + i * 5, none⟩ = some (.int .i64 li) ∧ w'.cell? ⟨pb, pa + i * 5 + 1, none⟩ = some (.int .i64 ci) ∧ w'.cell? ⟨pb, pa + j * 5, none⟩ = some (.int .i64 lj) ∧ w'.cell? ⟨pb, pa + j * 5 + 1, none⟩ = some (.int .i64 cj)) ∧ VdS w1 c (.slice (some ⟨pb, pa, none⟩) n cap) vd vw vg y pb pa i j li ci lj cj w')) (by kernel_rfl) ?_ (fun hHeld => ?_)
        · try dsimp only
          (refine VdS.all ?_; (first | with_reducible assumption | with_reducible exact VdS.drew (by assumption) | with_reducible exact VdS.drew (And.right (by assumption)) | with_reducible exact VdS.next (by assumption) (by assumption) | with_reducible exact VdS.next (And.right (by assumption)) (by assumption)))
        refine wpAnyH_take (i := 0) (v := ?v0zC) rfl (by kernel_rfl) (by kernel_rfl) (by kernel_rfl) (fun _ _ _ h => h) (Or.inl ⟨by rfl, ?hy0zC⟩) (by assumption) ?rest0zC
        case hy0zC => intro w hSw; (try dsimp only at hSw); first | (go_simp; done) | (go_simp; with_reducible rfl)
        try simp only [Act.put, List.getElem_toArray, List.getElem_cons_succ, List.getElem_cons_zero, List.setIfInBounds_toArray, List.set_cons_zero, List.set_cons_succ]
        refine wpAnyH_take (i := 1) (v := ?v1zC) rfl (by kernel_rfl) (by kernel_rfl) (by kernel_rfl) (fun _ _ _ h => h) (Or.inl ⟨by rfl, ?hy1zC⟩) (by assumption) ?rest1zC
        case hy1zC => intro w hSw; (try dsimp only at hSw); first | (go_simp; done) | (go_simp; with_reducible rfl)
        try simp only [Act.put, List.getElem_toArray, List.getElem_cons_succ, List.getElem_cons_zero, List.setIfInBounds_toArray, List.set_cons_zero, List.set_cons_succ]
        refine wpAnyH_take (i := 2) (v := ?v2zC) rfl (by kernel_rfl) (by kernel_rfl) (by kernel_rfl) (fun _ _ _ h => h) (Or.inl ⟨by rfl, ?hy2zC⟩) (by assumption) ?rest2zC
        case hy2zC => intro w hSw; (try dsimp only at hSw); first | (go_simp; done) | (go_simp; with_reducible rfl)
        try simp only [Act.put, List.getElem_toArray, List.getElem_cons_succ, List.getElem_cons_zero, List.setIfInBounds_toArray, List.set_cons_zero, List.set_cons_succ]
        refine wpAnyH_take (i := 3) (v := ?v3zC) rfl (by kernel_rfl) (by kernel_rfl) (by kernel_rfl) (fun _ _ _ h => h) (Or.inl ⟨by rfl, ?hy3zC⟩) (by assumption) ?rest3zC
        case hy3zC => intro w hSw; (try dsimp only at hSw); first | (go_simp; done) | (go_simp; with_reducible rfl)
        try simp only [Act.put, List.getElem_toArray, List.getElem_cons_succ, List.getElem_cons_zero, List.setIfInBounds_toArray, List.set_cons_zero, List.set_cons_succ]
        refine wpAnyH_take (i := 4) (v := ?v4zC) rfl (by kernel_rfl) (by kernel_rfl) (by kernel_rfl) (fun _ _ _ h => h) (Or.inl ⟨by rfl, ?hy4zC⟩) (by assumption) ?rest4zC
        case hy4zC => intro w hSw; (try dsimp only at hSw); first | (go_simp; done) | (go_simp; with_reducible rfl)
        try simp only [Act.put, List.getElem_toArray, List.getElem_cons_succ, List.getElem_cons_zero, List.setIfInBounds_toArray, List.set_cons_zero, List.set_cons_succ]
        refine wpAnyH_take (i := 5) (v := ?v5zC) rfl (by kernel_rfl) (by kernel_rfl) (by kernel_rfl) (fun _ _ _ h => h) (Or.inl ⟨by rfl, ?hy5zC⟩) (by assumption) ?rest5zC
        case hy5zC => intro w hSw; (try dsimp only at hSw); first | (go_simp; done) | (go_simp; with_reducible rfl)
        try simp only [Act.put, List.getElem_toArray, List.getElem_cons_succ, List.getElem_cons_zero, List.setIfInBounds_toArray, List.set_cons_zero, List.set_cons_succ]
        refine wpAnyH_take (i := 6) (v := ?v6zC) rfl (by kernel_rfl) (by kernel_rfl) (by kernel_rfl) (fun _ _ _ h => h) (Or.inl ⟨by rfl, ?hy6zC⟩) (by assumption) ?rest6zC
        case hy6zC => intro w hSw; (try dsimp only at hSw); first | (go_simp; done) | (go_simp; with_reducible rfl)
        try simp only [Act.put, List.getElem_toArray, List.getElem_cons_succ, List.getElem_cons_zero, List.setIfInBounds_toArray, List.set_cons_zero, List.set_cons_succ]
        refine wpAnyH_take (i := 7) (v := ?v7zC) rfl (by kernel_rfl) (by kernel_rfl) (by kernel_rfl) (fun _ _ _ h => h) (Or.inl ⟨by rfl, ?hy7zC⟩) (by assumption) ?rest7zC
        case hy7zC => intro w hSw; (try dsimp only at hSw); first | (go_simp; done) | (go_simp; with_reducible rfl)
        try simp only [Act.put, List.getElem_toArray, List.getElem_cons_succ, List.getElem_cons_zero, List.setIfInBounds_toArray, List.set_cons_zero, List.set_cons_succ]
        refine wpAnyH_take (i := 8) (v := ?v8zC) rfl (by kernel_rfl) (by kernel_rfl) (by kernel_rfl) (fun _ _ _ h => h) (Or.inl ⟨by rfl, ?hy8zC⟩) (by assumption) ?rest8zC
        case hy8zC => intro w hSw; (try dsimp only at hSw); first | (go_simp; done) | (go_simp; with_reducible rfl)
        try simp only [Act.put, List.getElem_toArray, List.getElem_cons_succ, List.getElem_cons_zero, List.setIfInBounds_toArray, List.set_cons_zero, List.set_cons_succ]
        refine wpAnyH_take (i := 9) (v := ?v9zC) rfl (by kernel_rfl) (by kernel_rfl) (by kernel_rfl) (fun _ _ _ h => h) (Or.inl ⟨by rfl, ?hy9zC⟩) (by assumption) ?rest9zC
        case hy9zC => intro w hSw; (try dsimp only at hSw); first | (go_simp; done) | (go_simp; with_reducible rfl)
        try simp only [Act.put, List.getElem_toArray, List.getElem_cons_succ, List.getElem_cons_zero, List.setIfInBounds_toArray, List.set_cons_zero, List.set_cons_succ]
        refine wpAnyH_take (i := 10) (v := ?v10zC) rfl (by kernel_rfl) (by kernel_rfl) (by kernel_rfl) (fun _ _ _ h => h) (Or.inl ⟨by rfl, ?hy10zC⟩) (by assumption) ?rest10zC
        case hy10zC => intro w hSw; (try dsimp only at hSw); first | (go_simp; done) | (go_simp; with_reducible rfl)
        try simp only [Act.put, List.getElem_toArray, List.getElem_cons_succ, List.getElem_cons_zero, List.setIfInBounds_toArray, List.set_cons_zero, List.set_cons_succ]
        refine wpAnyH_take (i := 11) (v := ?v11zC) rfl (by kernel_rfl) (by kernel_rfl) (by kernel_rfl) (fun _ _ _ h => h) (Or.inl ⟨by rfl, ?hy11zC⟩) (by assumption) ?rest11zC
        case hy11zC => intro w hSw; (try dsimp only at hSw); first | (go_simp; done) | (go_simp; with_reducible rfl)
        try simp only [Act.put, List.getElem_toArray, List.getElem_cons_succ, List.getElem_cons_zero, List.setIfInBounds_toArray, List.set_cons_zero, List.set_cons_succ]
        refine wpAnyH_take (i := 12) (v := ?v12zC) rfl (by kernel_rfl) (by kernel_rfl) (by kernel_rfl) (fun _ _ _ h => h) (Or.inl ⟨by rfl, ?hy12zC⟩) (by assumption) ?rest12zC
        case hy12zC => intro w hSw; (try dsimp only at hSw); first | (go_simp; done) | (go_simp; with_reducible rfl)
        try simp only [Act.put, List.getElem_toArray, List.getElem_cons_succ, List.getElem_cons_zero, List.setIfInBounds_toArray, List.set_cons_zero, List.set_cons_succ]
        refine wpAnyH_take (i := 13) (v := ?v13zC) rfl (by kernel_rfl) (by kernel_rfl) (by kernel_rfl) (fun _ _ _ h => h) (Or.inl ⟨by rfl, ?hy13zC⟩) (by assumption) ?rest13zC
        case hy13zC => intro w hSw; (try dsimp only at hSw); first | (go_simp; done) | (go_simp; with_reducible rfl)
        try simp only [Act.put, List.getElem_toArray, List.getElem_cons_succ, List.getElem_cons_zero, List.setIfInBounds_toArray, List.set_cons_zero, List.set_cons_succ]
        refine wpAnyH_take (i := 14) (v := ?v14zC) rfl (by kernel_rfl) (by kernel_rfl) (by kernel_rfl) (fun _ _ _ h => h) (Or.inl ⟨by rfl, ?hy14zC⟩) (by assumption) ?rest14zC
        case hy14zC => intro w hSw; (try dsimp only at hSw); first | (go_simp; done) | (go_simp; with_reducible rfl)
        try simp only [Act.put, List.getElem_toArray, List.getElem_cons_succ, List.getElem_cons_zero, List.setIfInBounds_toArray, List.set_cons_zero, List.set_cons_succ]
        refine wpAnyH_take (i := 15) (v := ?v15zC) rfl (by kernel_rfl) (by kernel_rfl) (by kernel_rfl) (fun _ _ _ h => h) (Or.inl ⟨by rfl, ?hy15zC⟩) (by assumption) ?rest15zC
        case hy15zC => intro w hSw; (try dsimp only at hSw); first | (go_simp; done) | (go_simp; with_reducible rfl)
        try simp only [Act.put, List.getElem_toArray, List.getElem_cons_succ, List.getElem_cons_zero, List.setIfInBounds_toArray, List.set_cons_zero, List.set_cons_succ]
        refine wpAnyH_ready (rs := [16]) (by kernel_rfl) (by simp) ?_
        refine AllReadyH.cons rfl (fun K hK => ?_) AllReadyH.nil
        go_simp
        refine (ldom_any _ _ _ _ _).mono ?_
        rintro e w5 ⟨rfl, hb5⟩
        rw [HL.out]
        go_wp2_with fail
        refine hK.out _ _ ?_ (fun hHeld2 => ?_)
        · try dsimp only
          (refine VdS.all ?_; (first | with_reducible assumption | with_reducible exact VdS.drew (by assumption) | with_reducible exact VdS.drew (And.right (by assumption)) | with_reducible exact VdS.next (by assumption) (by assumption) | with_reducible exact VdS.next (And.right (by assumption)) (by assumption)))
        clear hK K hHeld
        have hHeld := hHeld2; clear hHeld2
        try simp only [Act.put, List.getElem_toArray, List.getElem_cons_succ, List.getElem_cons_zero, List.setIfInBounds_toArray, List.set_cons_zero, List.set_cons_succ]
        refine wpAnyH_take (i := 17) (v := ?v17zC) rfl (by kernel_rfl) (by kernel_rfl) (by kernel_rfl) (fun _ _ _ h => h) (Or.inl ⟨by rfl, ?hy17zC⟩) (by assumption) ?rest17zC
        case hy17zC => intro w hSw; (try dsimp only at hSw); first | (go_simp; done) | (go_simp; with_reducible rfl)
        try simp only [Act.put, List.getElem_toArray, List.getElem_cons_succ, List.getElem_cons_zero, List.setIfInBounds_toArray, List.set_cons_zero, List.set_cons_succ]
        refine wpAnyH_take (i := 18) (v := ?v18zC) rfl (by kernel_rfl) (by kernel_rfl) (by kernel_rfl) (fun _ _ _ h => h) (Or.inl ⟨by rfl, ?hy18zC⟩) (by assumption) ?rest18zC
        case hy18zC => intro w hSw; (try dsimp only at hSw); first | (go_simp; done) | (go_simp; with_reducible rfl)
        try simp only [Act.put, List.getElem_toArray, List.getElem_cons_succ, List.getElem_cons_zero, List.setIfInBounds_toArray, List.set_cons_zero, List.set_cons_succ]
        refine wpAnyH_take (i := 19) (v := ?v19zC) rfl (by kernel_rfl) (by kernel_rfl) (by kernel_rfl) (fun _ _ _ h => h) (Or.inl ⟨by rfl, ?hy19zC⟩) (by assumption) ?rest19zC
        case hy19zC => intro w hSw; (try dsimp only at hSw); first | (go_simp; done) | (go_simp; with_reducible rfl)
        try simp only [Act.put, List.getElem_toArray, List.getElem_cons_succ, List.getElem_cons_zero, List.setIfInBounds_toArray, List.set_cons_zero, List.set_cons_succ]
        refine wpAnyH_take (i := 20) (v := ?v20zC) rfl (by kernel_rfl) (by kernel_rfl) (by kernel_rfl) (fun _ _ _ h => h) (Or.inl ⟨by rfl, ?hy20zC⟩) (by assumption) ?rest20zC
        case hy20zC => intro w hSw; (try dsimp only at hSw); first | (go_simp; done) | (go_simp; with_reducible rfl)
        try simp only [Act.put, List.getElem_toArray, List.getElem_cons_succ, List.getElem_cons_zero, List.setIfInBounds_toArray, List.set_cons_zero, List.set_cons_succ]
        refine wpAnyH_take (i := 21) (v := ?v21zC) rfl (by kernel_rfl) (by kernel_rfl) (by kernel_rfl) (fun _ _ _ h => h) (Or.inl ⟨by rfl, ?hy21zC⟩) (by assumption) ?rest21zC
        case hy21zC => intro w hSw; (try dsimp only at hSw); first | (go_simp; done) | (go_simp; with_reducible rfl)
        try simp only [Act.put, List.getElem_toArray, List.getElem_cons_succ, List.getElem_cons_zero, List.setIfInBounds_toArray, List.set_cons_zero, List.set_cons_succ]
        refine wpAnyH_ready (rs := [22]) (by kernel_rfl) (by simp) ?_
        refine AllReadyH.cons rfl (fun K hK => ?_) AllReadyH.nil
        go_simp
        refine (vgrants_r (hHeld.2.ca) i (j : Int) (by rw [HN.out]; exact hi)).mono ?_
        rintro e w6 ⟨rfl, hb6⟩
        rw [HG1.out]
        go_wp2_with fail
        refine hK.out _ _ ?_ (fun hHeld2 => ?_)
        · try dsimp only
          (refine VdS.all ?_; (first | with_reducible assumption | with_reducible exact VdS.drew (by assumption) | with_reducible exact VdS.drew (And.right (by assumption)) | with_reducible exact VdS.next (by assumption) (by assumption) | with_reducible exact VdS.next (And.right (by assumption)) (by assumption)))
        clear hK K hHeld
        have hHeld := hHeld2; clear hHeld2
        try simp only [Act.put, List.getElem_toArray, List.getElem_cons_succ, List.getElem_cons_zero, List.setIfInBounds_toArray, List.set_cons_zero, List.set_cons_succ]
        refine wpAnyH_take (i := 23) (v := ?v23zC) rfl (by kernel_rfl) (by kernel_rfl) (by kernel_rfl) (fun _ _ _ h => h) (Or.inl ⟨by rfl, ?hy23zC⟩) (by assumption) ?rest23zC
        case hy23zC => intro w hSw; (try dsimp only at hSw); first | (go_simp; done) | (go_simp; with_reducible rfl)
        try simp only [Act.put, List.getElem_toArray, List.getElem_cons_succ, List.getElem_cons_zero, List.setIfInBounds_toArray, List.set_cons_zero, List.set_cons_succ]
        refine wpAnyH_take (i := 24) (v := ?v24zC) rfl (by kernel_rfl) (by kernel_rfl) (by kernel_rfl) (fun _ _ _ h => h) (Or.inl ⟨by rfl, ?hy24zC⟩) (by assumption) ?rest24zC
        case hy24zC => intro w hSw; (try dsimp only at hSw); first | (go_simp; done) | (go_simp; with_reducible rfl)
        try simp only [Act.put, List.getElem_toArray, List.getElem_cons_succ, List.getElem_cons_zero, List.setIfInBounds_toArray, List.set_cons_zero, List.set_cons_succ]
        refine wpAnyH_take (i := 25) (v := undef) rfl (by kernel_rfl) (by kernel_rfl) (by kernel_rfl) (fun _ _ _ h => h) (Or.inr ⟨by rfl, rfl⟩) (by assumption) ?rest25zC
        try simp only [Act.put, List.getElem_toArray, List.getElem_cons_succ, List.getElem_cons_zero, List.setIfInBounds_toArray, List.set_cons_zero, List.set_cons_succ]
        refine wpAnyH_take (i := 26) (v := undef) rfl (by kernel_rfl) (by kernel_rfl) (by kernel_rfl) (fun _ _ _ h => h) (Or.inr ⟨by rfl, rfl⟩) (by assumption) ?rest26zC
        try simp only [Act.put, List.getElem_toArray, List.getElem_cons_succ, List.getElem_cons_zero, List.setIfInBounds_toArray, List.set_cons_zero, List.set_cons_succ]
        refine wpAnyH_take (i := 27) (v := undef) rfl (by kernel_rfl) (by kernel_rfl) (by kernel_rfl) (fun _ _ _ h => h) (Or.inr ⟨by rfl, rfl⟩) (by assumption) ?rest27zC
        try simp only [Act.put, List.getElem_toArray, List.getElem_cons_succ, List.getElem_cons_zero, List.setIfInBounds_toArray, List.set_cons_zero, List.set_cons_succ]
        refine wpAnyH_take (i := 28) (v := undef) rfl (by kernel_rfl) (by kernel_rfl) (by kernel_rfl) (fun _ _ _ h => h) (Or.inr ⟨by rfl, rfl⟩) (by assumption) ?rest28zC
        try simp only [Act.put, List.getElem_toArray, List.getElem_cons_succ, List.getElem_cons_zero, List.setIfInBounds_toArray, List.set_cons_zero, List.set_cons_succ]
        refine wpAnyH_take (i := 29) (v := ?v29zC) rfl (by kernel_rfl) (by kernel_rfl) (by kernel_rfl) (fun _ _ _ h => h) (Or.inl ⟨by rfl, ?hy29zC⟩) (by assumption) ?rest29zC
        case hy29zC => intro w hSw; (try dsimp only at hSw); first | (go_simp; done) | (go_simp; with_reducible rfl)
        try simp only [Act.put, List.getElem_toArray, List.getElem_cons_succ, List.getElem_cons_zero, List.setIfInBounds_toArray, List.set_cons_zero, List.set_cons_succ]
        refine wpAnyH_take (i := 30) (v := ?v30zC) rfl (by kernel_rfl) (by kernel_rfl) (by kernel_rfl) (fun _ _ _ h => h) (Or.inl ⟨by rfl, ?hy30zC⟩) (by assumption) ?rest30zC
        case hy30zC => intro w hSw; (try dsimp only at hSw); first | (go_simp; done) | (go_simp; with_reducible rfl)
        try simp only [Act.put, List.getElem_toArray, List.getElem_cons_succ, List.getElem_cons_zero, List.setIfInBounds_toArray, List.set_cons_zero, List.set_cons_succ]
        refine wpAnyH_done (by kernel_rfl) ?_ _
        all_goals
          have HS9 := Lib.hid hHeld.2.below
          clear hHeld
          go_wp2_with fail
          go_ret
          exact ⟨by rw [HQ9.out]; rfl, by rw [hz]; exact Below.down HB.out HS9.out (by have := HB.out.size; omega)⟩
      | false =>
        have HQ9 := Lib.hid (show Q = G2 by rw [← HQ.out]; rfl)
        go_enter Try.func24, Try.ntmps24
        go_wp2_with fail
        generalize w.alloc (.cells #[.int .i64 c.fr, (.slice (some ⟨pb, pa, none⟩) n cap), vd, .int .i64 c.mj, vw, vg, .int .i64 c.se, .int .i64 c.qu, .int .i64 c.qt] 27) = w1 at *
        generalize hz : w.heap.size = y at *
        refine wp_region_held_drew (S := (fun w' => (w'.cell? ⟨y, 0, none⟩ = some (.int .i64 c.fr) ∧ w'.cell? ⟨y, 1, none⟩ = some (.slice (some ⟨pb, pa, none⟩) n cap) ∧ w'.cell? ⟨y, 2, none⟩ = some vd ∧ w'.cell? ⟨y, 3, none⟩ = some (.int .i64 c.mj) ∧ w'.cell? ⟨y, 4, none⟩ = some vw ∧ w'.cell? ⟨y, 5, none⟩ = some vg ∧ w'.cell? ⟨y, 6, none⟩ = some (.int .i64 c.se) ∧ w'.cell? ⟨y, 7, none⟩ = some (.int .i64 c.qu) ∧ w'.cell? ⟨y, 8, none⟩ = some (.int .i64 c.qt) ∧ w'.cell? ⟨pb, pa + i * 5, none⟩ = some (.int .i64 li) ∧ w'.cell? ⟨pb, pa + i * 5 + 1, none⟩ = some (.int .i64 ci) ∧ w'.cell? ⟨pb, pa + j * 5, none⟩ = some (.int .i64 lj) ∧ w'.cell? ⟨pb, pa + j * 5 + 1, none⟩ = some (.int .i64 cj)) ∧ VdS w1 c (.slice (some ⟨pb, pa, none⟩) n cap) vd vw vg y pb pa i j li ci lj cj w')) (by kernel_rfl) ?_ (fun hHeld => ?_)
        · try dsimp only
          (refine VdS.all ?_; (first | with_reducible assumption | with_reducible exact VdS.drew (by assumption) | with_reducible exact VdS.drew (And.right (by assumption)) | with_reducible exact VdS.next (by assumption) (by assumption) | with_reducible exact VdS.next (And.right (by assumption)) (by assumption)))
        refine wpAnyH_take (i := 0) (v := ?v0zD) rfl (by kernel_rfl) (by kernel_rfl) (by kernel_rfl) (fun _ _ _ h => h) (Or.inl ⟨by rfl, ?hy0zD⟩) (by assumption) ?rest0zD
        case hy0zD => intro w hSw; (try dsimp only at hSw); first | (go_simp; done) | (go_simp; with_reducible rfl)
        try simp only [Act.put, List.getElem_toArray, List.getElem_cons_succ, List.getElem_cons_zero, List.setIfInBounds_toArray, List.set_cons_zero, List.set_cons_succ]
        refine wpAnyH_take (i := 1) (v := ?v1zD) rfl (by kernel_rfl) (by kernel_rfl) (by kernel_rfl) (fun _ _ _ h => h) (Or.inl ⟨by rfl, ?hy1zD⟩) (by assumption) ?rest1zD
        case hy1zD => intro w hSw; (try dsimp only at hSw); first | (go_simp; done) | (go_simp; with_reducible rfl)
        try simp only [Act.put, List.getElem_toArray, List.getElem_cons_succ, List.getElem_cons_zero, List.setIfInBounds_toArray, List.set_cons_zero, List.set_cons_succ]
        refine wpAnyH_take (i := 2) (v := ?v2zD) rfl (by kernel_rfl) (by kernel_rfl) (by kernel_rfl) (fun _ _ _ h => h) (Or.inl ⟨by rfl, ?hy2zD⟩) (by assumption) ?rest2zD
        case hy2zD => intro w hSw; (try dsimp only at hSw); first | (go_simp; done) | (go_simp; with_reducible rfl)
        try simp only [Act.put, List.getElem_toArray, List.getElem_cons_succ, List.getElem_cons_zero, List.setIfInBounds_toArray, List.set_cons_zero, List.set_cons_succ]
        refine wpAnyH_take (i := 3) (v := ?v3zD) rfl (by kernel_rfl) (by kernel_rfl) (by kernel_rfl) (fun _ _ _ h => h) (Or.inl ⟨by rfl, ?hy3zD⟩) (by assumption) ?rest3zD
        case hy3zD => intro w hSw; (try dsimp only at hSw); first | (go_simp; done) | (go_simp; with_reducible rfl)
        try simp only [Act.put, List.getElem_toArray, List.getElem_cons_succ, List.getElem_cons_zero, List.setIfInBounds_toArray, List.set_cons_zero, List.set_cons_succ]
        refine wpAnyH_take (i := 4) (v := ?v4zD) rfl (by kernel_rfl) (by kernel_rfl) (by kernel_rfl) (fun _ _ _ h => h) (Or.inl ⟨by rfl, ?hy4zD⟩) (by assumption) ?rest4zD
        case hy4zD => intro w hSw; (try dsimp only at hSw); first | (go_simp; done) | (go_simp; with_reducible rfl)
        try simp only [Act.put, List.getElem_toArray, List.getElem_cons_succ, List.getElem_cons_zero, List.setIfInBounds_toArray, List.set_cons_zero, List.set_cons_succ]
        refine wpAnyH_take (i := 5) (v := ?v5zD) rfl (by kernel_rfl) (by kernel_rfl) (by kernel_rfl) (fun _ _ _ h => h) (Or.inl ⟨by rfl, ?hy5zD⟩) (by assumption) ?rest5zD
        case hy5zD => intro w hSw; (try dsimp only at hSw); first | (go_simp; done) | (go_simp; with_reducible rfl)
        try simp only [Act.put, List.getElem_toArray, List.getElem_cons_succ, List.getElem_cons_zero, List.setIfInBounds_toArray, List.set_cons_zero, List.set_cons_succ]
        refine wpAnyH_take (i := 6) (v := ?v6zD) rfl (by kernel_rfl) (by kernel_rfl) (by kernel_rfl) (fun _ _ _ h => h) (Or.inl ⟨by rfl, ?hy6zD⟩) (by assumption) ?rest6zD
        case hy6zD => intro w hSw; (try dsimp only at hSw); first | (go_simp; done) | (go_simp; with_reducible rfl)
        try simp only [Act.put, List.getElem_toArray, List.getElem_cons_succ, List.getElem_cons_zero, List.setIfInBounds_toArray, List.set_cons_zero, List.set_cons_succ]
        refine wpAnyH_take (i := 7) (v := ?v7zD) rfl (by kernel_rfl) (by kernel_rfl) (by kernel_rfl) (fun _ _ _ h => h) (Or.inl ⟨by rfl, ?hy7zD⟩) (by assumption) ?rest7zD
        case hy7zD => intro w hSw; (try dsimp only at hSw); first | (go_simp; done) | (go_simp; with_reducible rfl)
        try simp only [Act.put, List.getElem_toArray, List.getElem_cons_succ, List.getElem_cons_zero, List.setIfInBounds_toArray, List.set_cons_zero, List.set_cons_succ]
        refine wpAnyH_take (i := 8) (v := ?v8zD) rfl (by kernel_rfl) (by kernel_rfl) (by kernel_rfl) (fun _ _ _ h => h) (Or.inl ⟨by rfl, ?hy8zD⟩) (by assumption) ?rest8zD
        case hy8zD => intro w hSw; (try dsimp only at hSw); first | (go_simp; done) | (go_simp; with_reducible rfl)
        try simp only [Act.put, List.getElem_toArray, List.getElem_cons_succ, List.getElem_cons_zero, List.setIfInBounds_toArray, List.set_cons_zero, List.set_cons_succ]
        refine wpAnyH_take (i := 9) (v := ?v9zD) rfl (by kernel_rfl) (by kernel_rfl) (by kernel_rfl) (fun _ _ _ h => h) (Or.inl ⟨by rfl, ?hy9zD⟩) (by assumption) ?rest9zD
        case hy9zD => intro w hSw; (try dsimp only at hSw); first | (go_simp; done) | (go_simp; with_reducible rfl)
        try simp only [Act.put, List.getElem_toArray, List.getElem_cons_succ, List.getElem_cons_zero, List.setIfInBounds_toArray, List.set_cons_zero, List.set_cons_succ]
        refine wpAnyH_take (i := 10) (v := ?v10zD) rfl (by kernel_rfl) (by kernel_rfl) (by kernel_rfl) (fun _ _ _ h => h) (Or.inl ⟨by rfl, ?hy10zD⟩) (by assumption) ?rest10zD
        case hy10zD => intro w hSw; (try dsimp only at hSw); first | (go_simp; done) | (go_simp; with_reducible rfl)
        try simp only [Act.put, List.getElem_toArray, List.getElem_cons_succ, List.getElem_cons_zero, List.setIfInBounds_toArray, List.set_cons_zero, List.set_cons_succ]
        refine wpAnyH_take (i := 11) (v := ?v11zD) rfl (by kernel_rfl) (by kernel_rfl) (by kernel_rfl) (fun _ _ _ h => h) (Or.inl ⟨by rfl, ?hy11zD⟩) (by assumption) ?rest11zD
        case hy11zD => intro w hSw; (try dsimp only at hSw); first | (go_simp; done) | (go_simp; with_reducible rfl)
        try simp only [Act.put, List.getElem_toArray, List.getElem_cons_succ, List.getElem_cons_zero, List.setIfInBounds_toArray, List.set_cons_zero, List.set_cons_succ]
        refine wpAnyH_take (i := 12) (v := ?v12zD) rfl (by kernel_rfl) (by kernel_rfl) (by kernel_rfl) (fun _ _ _ h => h) (Or.inl ⟨by rfl, ?hy12zD⟩) (by assumption) ?rest12zD
        case hy12zD => intro w hSw; (try dsimp only at hSw); first | (go_simp; done) | (go_simp; with_reducible rfl)
        try simp only [Act.put, List.getElem_toArray, List.getElem_cons_succ, List.getElem_cons_zero, List.setIfInBounds_toArray, List.set_cons_zero, List.set_cons_succ]
        refine wpAnyH_take (i := 13) (v := ?v13zD) rfl (by kernel_rfl) (by kernel_rfl) (by kernel_rfl) (fun _ _ _ h => h) (Or.inl ⟨by rfl, ?hy13zD⟩) (by assumption) ?rest13zD
        case hy13zD => intro w hSw; (try dsimp only at hSw); first | (go_simp; done) | (go_simp; with_reducible rfl)
        try simp only [Act.put, List.getElem_toArray, List.getElem_cons_succ, List.getElem_cons_zero, List.setIfInBounds_toArray, List.set_cons_zero, List.set_cons_succ]
        refine wpAnyH_take (i := 14) (v := ?v14zD) rfl (by kernel_rfl) (by kernel_rfl) (by kernel_rfl) (fun _ _ _ h => h) (Or.inl ⟨by rfl, ?hy14zD⟩) (by assumption) ?rest14zD
        case hy14zD => intro w hSw; (try dsimp only at hSw); first | (go_simp; done) | (go_simp; with_reducible rfl)
        try simp only [Act.put, List.getElem_toArray, List.getElem_cons_succ, List.getElem_cons_zero, List.setIfInBounds_toArray, List.set_cons_zero, List.set_cons_succ]
        refine wpAnyH_take (i := 15) (v := ?v15zD) rfl (by kernel_rfl) (by kernel_rfl) (by kernel_rfl) (fun _ _ _ h => h) (Or.inl ⟨by rfl, ?hy15zD⟩) (by assumption) ?rest15zD
        case hy15zD => intro w hSw; (try dsimp only at hSw); first | (go_simp; done) | (go_simp; with_reducible rfl)
        try simp only [Act.put, List.getElem_toArray, List.getElem_cons_succ, List.getElem_cons_zero, List.setIfInBounds_toArray, List.set_cons_zero, List.set_cons_succ]
        refine wpAnyH_ready (rs := [16]) (by kernel_rfl) (by simp) ?_
        refine AllReadyH.cons rfl (fun K hK => ?_) AllReadyH.nil
        go_simp
        refine (ldom_any _ _ _ _ _).mono ?_
        rintro e w5 ⟨rfl, hb5⟩
        rw [HL.out]
        go_wp2_with fail
        refine hK.out _ _ ?_ (fun hHeld2 => ?_)
        · try dsimp only
          (refine VdS.all ?_; (first | with_reducible assumption | with_reducible exact VdS.drew (by assumption) | with_reducible exact VdS.drew (And.right (by assumption)) | with_reducible exact VdS.next (by assumption) (by assumption) | with_reducible exact VdS.next (And.right (by assumption)) (by assumption)))
        clear hK K hHeld
        have hHeld := hHeld2; clear hHeld2
        try simp only [Act.put, List.getElem_toArray, List.getElem_cons_succ, List.getElem_cons_zero, List.setIfInBounds_toArray, List.set_cons_zero, List.set_cons_succ]
        refine wpAnyH_take (i := 17) (v := ?v17zD) rfl (by kernel_rfl) (by kernel_rfl) (by kernel_rfl) (fun _ _ _ h => h) (Or.inl ⟨by rfl, ?hy17zD⟩) (by assumption) ?rest17zD
        case hy17zD => intro w hSw; (try dsimp only at hSw); first | (go_simp; done) | (go_simp; with_reducible rfl)
        try simp only [Act.put, List.getElem_toArray, List.getElem_cons_succ, List.getElem_cons_zero, List.setIfInBounds_toArray, List.set_cons_zero, List.set_cons_succ]
        refine wpAnyH_take (i := 18) (v := ?v18zD) rfl (by kernel_rfl) (by kernel_rfl) (by kernel_rfl) (fun _ _ _ h => h) (Or.inl ⟨by rfl, ?hy18zD⟩) (by assumption) ?rest18zD
        case hy18zD => intro w hSw; (try dsimp only at hSw); first | (go_simp; done) | (go_simp; with_reducible rfl)
        try simp only [Act.put, List.getElem_toArray, List.getElem_cons_succ, List.getElem_cons_zero, List.setIfInBounds_toArray, List.set_cons_zero, List.set_cons_succ]
        refine wpAnyH_take (i := 19) (v := ?v19zD) rfl (by kernel_rfl) (by kernel_rfl) (by kernel_rfl) (fun _ _ _ h => h) (Or.inl ⟨by rfl, ?hy19zD⟩) (by assumption) ?rest19zD
        case hy19zD => intro w hSw; (try dsimp only at hSw); first | (go_simp; done) | (go_simp; with_reducible rfl)
        try simp only [Act.put, List.getElem_toArray, List.getElem_cons_succ, List.getElem_cons_zero, List.setIfInBounds_toArray, List.set_cons_zero, List.set_cons_succ]
        refine wpAnyH_take (i := 20) (v := ?v20zD) rfl (by kernel_rfl) (by kernel_rfl) (by kernel_rfl) (fun _ _ _ h => h) (Or.inl ⟨by rfl, ?hy20zD⟩) (by assumption) ?rest20zD
        case hy20zD => intro w hSw; (try dsimp only at hSw); first | (go_simp; done) | (go_simp; with_reducible rfl)
        try simp only [Act.put, List.getElem_toArray, List.getElem_cons_succ, List.getElem_cons_zero, List.setIfInBounds_toArray, List.set_cons_zero, List.set_cons_succ]
        refine wpAnyH_take (i := 21) (v := ?v21zD) rfl (by kernel_rfl) (by kernel_rfl) (by kernel_rfl) (fun _ _ _ h => h) (Or.inl ⟨by rfl, ?hy21zD⟩) (by assumption) ?rest21zD
        case hy21zD => intro w hSw; (try dsimp only at hSw); first | (go_simp; done) | (go_simp; with_reducible rfl)
        try simp only [Act.put, List.getElem_toArray, List.getElem_cons_succ, List.getElem_cons_zero, List.setIfInBounds_toArray, List.set_cons_zero, List.set_cons_succ]
        refine wpAnyH_ready (rs := [22]) (by kernel_rfl) (by simp) ?_
        refine AllReadyH.cons rfl (fun K hK => ?_) AllReadyH.nil
        go_simp
        refine (vgrants_r (hHeld.2.ca) i (j : Int) (by rw [HN.out]; exact hi)).mono ?_
        rintro e w6 ⟨rfl, hb6⟩
        rw [HG1.out]
        go_wp2_with fail
        refine hK.out _ _ ?_ (fun hHeld2 => ?_)
        · try dsimp only
          (refine VdS.all ?_; (first | with_reducible assumption | with_reducible exact VdS.drew (by assumption) | with_reducible exact VdS.drew (And.right (by assumption)) | with_reducible exact VdS.next (by assumption) (by assumption) | with_reducible exact VdS.next (And.right (by assumption)) (by assumption)))
        clear hK K hHeld
        have hHeld := hHeld2; clear hHeld2
        try simp only [Act.put, List.getElem_toArray, List.getElem_cons_succ, List.getElem_cons_zero, List.setIfInBounds_toArray, List.set_cons_zero, List.set_cons_succ]
        refine wpAnyH_take (i := 23) (v := ?v23zD) rfl (by kernel_rfl) (by kernel_rfl) (by kernel_rfl) (fun _ _ _ h => h) (Or.inl ⟨by rfl, ?hy23zD⟩) (by assumption) ?rest23zD
        case hy23zD => intro w hSw; (try dsimp only at hSw); first | (go_simp; done) | (go_simp; with_reducible rfl)
        try simp only [Act.put, List.getElem_toArray, List.getElem_cons_succ, List.getElem_cons_zero, List.setIfInBounds_toArray, List.set_cons_zero, List.set_cons_succ]
        refine wpAnyH_take (i := 24) (v := ?v24zD) rfl (by kernel_rfl) (by kernel_rfl) (by kernel_rfl) (fun _ _ _ h => h) (Or.inl ⟨by rfl, ?hy24zD⟩) (by assumption) ?rest24zD
        case hy24zD => intro w hSw; (try dsimp only at hSw); first | (go_simp; done) | (go_simp; with_reducible rfl)
        try simp only [Act.put, List.getElem_toArray, List.getElem_cons_succ, List.getElem_cons_zero, List.setIfInBounds_toArray, List.set_cons_zero, List.set_cons_succ]
        refine wpAnyH_take (i := 25) (v := ?v25zD) rfl (by kernel_rfl) (by kernel_rfl) (by kernel_rfl) (fun _ _ _ h => h) (Or.inl ⟨by rfl, ?hy25zD⟩) (by assumption) ?rest25zD
        case hy25zD => intro w hSw; (try dsimp only at hSw); first | (go_simp; done) | (go_simp; with_reducible rfl)
        try simp only [Act.put, List.getElem_toArray, List.getElem_cons_succ, List.getElem_cons_zero, List.setIfInBounds_toArray, List.set_cons_zero, List.set_cons_succ]
        refine wpAnyH_take (i := 26) (v := ?v26zD) rfl (by kernel_rfl) (by kernel_rfl) (by kernel_rfl) (fun _ _ _ h => h) (Or.inl ⟨by rfl, ?hy26zD⟩) (by assumption) ?rest26zD
        case hy26zD => intro w hSw; (try dsimp only at hSw); first | (go_simp; done) | (go_simp; with_reducible rfl)
        try simp only [Act.put, List.getElem_toArray, List.getElem_cons_succ, List.getElem_cons_zero, List.setIfInBounds_toArray, List.set_cons_zero, List.set_cons_succ]
        refine wpAnyH_take (i := 27) (v := ?v27zD) rfl (by kernel_rfl) (by kernel_rfl) (by kernel_rfl) (fun _ _ _ h => h) (Or.inl ⟨by rfl, ?hy27zD⟩) (by assumption) ?rest27zD
        case hy27zD => intro w hSw; (try dsimp only at hSw); first | (go_simp; done) | (go_simp; with_reducible rfl)
        try simp only [Act.put, List.getElem_toArray, List.getElem_cons_succ, List.getElem_cons_zero, List.setIfInBounds_toArray, List.set_cons_zero, List.set_cons_succ]
        refine wpAnyH_ready (rs := [28]) (by kernel_rfl) (by simp) ?_
        refine AllReadyH.cons rfl (fun K hK => ?_) AllReadyH.nil
        go_simp
        refine (vgrants_w (hHeld.2.ca) j (i : Int) (by rw [HN.out]; exact hj)).mono ?_
        rintro e w7 ⟨rfl, hb7⟩
        rw [HG2.out]
        go_wp2_with fail
        refine hK.out _ _ ?_ (fun hHeld2 => ?_)
        · try dsimp only
          (refine VdS.all ?_; (first | with_reducible assumption | with_reducible exact VdS.drew (by assumption) | with_reducible exact VdS.drew (And.right (by assumption)) | with_reducible exact VdS.next (by assumption) (by assumption) | with_reducible exact VdS.next (And.right (by assumption)) (by assumption)))
        clear hK K hHeld
        have hHeld := hHeld2; clear hHeld2
        try simp only [Act.put, List.getElem_toArray, List.getElem_cons_succ, List.getElem_cons_zero, List.setIfInBounds_toArray, List.set_cons_zero, List.set_cons_succ]
        refine wpAnyH_take (i := 29) (v := ?v29zD) rfl (by kernel_rfl) (by kernel_rfl) (by kernel_rfl) (fun _ _ _ h => h) (Or.inl ⟨by rfl, ?hy29zD⟩) (by assumption) ?rest29zD
        case hy29zD => intro w hSw; (try dsimp only at hSw); first | (go_simp; done) | (go_simp; with_reducible rfl)
        try simp only [Act.put, List.getElem_toArray, List.getElem_cons_succ, List.getElem_cons_zero, List.setIfInBounds_toArray, List.set_cons_zero, List.set_cons_succ]
        refine wpAnyH_take (i := 30) (v := ?v30zD) rfl (by kernel_rfl) (by kernel_rfl) (by kernel_rfl) (fun _ _ _ h => h) (Or.inl ⟨by rfl, ?hy30zD⟩) (by assumption) ?rest30zD
        case hy30zD => intro w hSw; (try dsimp only at hSw); first | (go_simp; done) | (go_simp; with_reducible rfl)
        try simp only [Act.put, List.getElem_toArray, List.getElem_cons_succ, List.getElem_cons_zero, List.setIfInBounds_toArray, List.set_cons_zero, List.set_cons_succ]
        refine wpAnyH_done (by kernel_rfl) ?_ _
        all_goals
          have HS9 := Lib.hid hHeld.2.below
          clear hHeld
          go_wp2_with fail
          go_ret
          exact ⟨by rw [HQ9.out]; rfl, by rw [hz]; exact Below.down HB.out HS9.out (by have := HB.out.size; omega)⟩
end Go.Proofs.Ytkaalinoiilmoaa
namespace Go.Proofs.Ytkaalinoiilmoaa
open Go.RowKit
set_option linter.unusedVariables false
set_option linter.unusedSimpArgs false
set_option maxRecDepth 100000
structure FdW (w0 : World) (c : Cf) (vp vd vw vg : Value) (gF gc gf : Nat) (F : Nat → Bool) (w : World) : Prop where
  fb : Blk w gF 72 (bitc F 4)
  cb : Blk w gc 27 (cfc c vp vd vw vg)
  vb : Blk w gf 73 [.func (.func 23) #[] #[.pointer (some ⟨gF, 0, none⟩), .pointer (some ⟨gc, 0, none⟩), .pointer (some ⟨gf, 0, none⟩)]]
  gF : w0.heap.size ≤ gF
  below : Below w0.heap.size w0 w
section
variable {w0 w w' : World} {c : Cf} {vp vd vw vg : Value} {gF gc gf : Nat} {F : Nat → Bool}
theorem FdW.next (h : FdW w0 c vp vd vw vg gF gc gf F w) (hb : Below w.heap.size w w') : FdW w0 c vp vd vw vg gF gc gf F w' :=
  ⟨h.fb.below hb h.fb.lt, h.cb.below hb h.cb.lt, h.vb.below hb h.vb.lt, h.gF, Below.down h.below hb h.below.size⟩
theorem FdW.put (h : FdW w0 c vp vd vw vg gF gc gf F w) (p : Nat) : FdW w0 c vp vd vw vg gF gc gf (bitF F p true) (w.setCell ⟨gF, p, none⟩ (.bool true)) :=
  ⟨by have := h.fb.set p (.bool true); rwa [bitc_set] at this, h.cb.far (h.cb.apart h.fb (by decide)) _, h.vb.far (h.vb.apart h.fb (by decide)) _, h.gF, h.below.setCell h.gF _⟩
set_option maxHeartbeats 1000000 in
theorem vfind_any (hc : CfAt w0 vp vd vw vg c) (h4 : c.ps.length ≤ 4) : ∀ (m : Nat) (F : Nat → Bool) (p : Nat) (w : World), unf c.ps.length F ≤ m → F p = false → p < c.ps.length → FdW w0 c vp vd vw vg gF gc gf F w →
    Calls Try.prog 23 #[.int .i64 (p : Int), .pointer (some ⟨gF, 0, none⟩), .pointer (some ⟨gc, 0, none⟩), .pointer (some ⟨gf, 0, none⟩)] w fun e w' => e = .returned (.tuple #[]) ∧ ∃ F', Fd (dN c) c.ps.length p F F' ∧ FdW w0 c vp vd vw vg gF gc gf F' w' := by
  intro m
  induction m with
  | zero => intro F p w hm hf hp _; have := unf_lt hp hf; omega
  | succ m ih =>
    intro F p w hm hf hp h
    obtain ⟨A, cap, hvp, _⟩ := hc.ps
    have HD := Lib.hid (fun (W : World) (hW : Below w0.heap.size w0 W) (i : Nat) (hi : i < c.ps.length) => vdirect_any (hc.below hW) i p hi hp)
    have HI := Lib.hid (fun (G : Nat → Bool) (hm : unf c.ps.length G ≤ m) => ih G)
    have h1 := h.put p
    have hfw := Fw.start (d := dN c) (n := c.ps.length) (p := p) (F := F)
    have hu : unf c.ps.length (bitF F p true) ≤ m := by have := unf_lt hp hf; omega
    have f0 := h.fb.frozen p
    have hp4 : (p : Int) < 4 := by omega
    have HP := Lib.hid hp; have H1 := Lib.hid h1; have HFW := Lib.hid hfw; have HU := Lib.hid hu
    have c0 := (h.fb.cell p).trans (bitc_get F 4 p (by omega))
    have c1 : (w.setCell ⟨gF, p, none⟩ (.bool true)).cell? ⟨gc, 1, none⟩ = some vp := (h1.cb.cell 1).trans rfl
    subst hvp
    clear hm hf h ih h1 hfw hu hc
    generalize hn : c.ps.length = n at *
    go_enter Try.func23, Try.ntmps23
    go_wp2_with fail
    generalize w.setCell ⟨gF, p, none⟩ (.bool true) = w1 at *
    clear c0 c1 f0
    go_loopw [11, 5] (fun i v wr => ∃ k : Nat, k ≤ n ∧ i = .int .i64 k ∧ Hid (∃ G, unf n G ≤ m ∧ Fw (dN c) n p k F G ∧ FdW w0 c (.slice A n cap) vd vw vg gF gc gf G wr)) (fun i _ _ => n - (intOf i).toNat)
    case atStart => exact ⟨0, by omega, rfl, Lib.hid ⟨_, HU.out, HFW.out, H1.out⟩⟩
    case round =>
      obtain ⟨k, hk, rfl, HX⟩ := hrel
      by_cases hlt : k < n
      · obtain ⟨G, hu, hw, hS⟩ := HX.out
        have k0 := (hS.fb.cell k).trans (bitc_get G 4 k (by omega))
        have hk4 : (k : Int) < 4 := by omega
        obtain ⟨q0, q1, q2, q3, q4, q5, q6, q7, q8⟩ := cf_at hS.cb
        have HC := Lib.hid (HD.out wr hS.below k hlt)
        have HU2 := Lib.hid hu; have HW := Lib.hid hw; have HS := Lib.hid hS
        clear hu hw hS
        cases hg : G k with
        | true =>
          rw [hg] at k0
          have HG := Lib.hid hg
          clear hg
          go_wp2_with fail
          go_roundw
          case rel => exact ⟨k + 1, by omega, by go_num, Lib.hid ⟨_, HU2.out, HW.out.skip (fun _ => HG.out), HS.out⟩⟩
          case measure => simp [intOf]; omega
        | false =>
          rw [hg] at k0
          have HG := Lib.hid hg
          clear hg
          go_wp2_with fail
          refine HC.out.mono ?_
          rintro e w2 ⟨rfl, b2⟩
          have HS2 := Lib.hid (HS.out.next b2)
          have q9 := (HS2.out.vb.cell 0).trans rfl
          clear b2
          cases hd : dN c k p with
          | false =>
            have HDD := Lib.hid hd
            clear hd q9
            go_wp2_with fail
            go_roundw
            case rel => exact ⟨k + 1, by omega, by go_num, Lib.hid ⟨_, HU2.out, HW.out.skip (fun h => by rw [HDD.out] at h; cases h), HS2.out⟩⟩
            case measure => simp [intOf]; omega
          | true =>
            have HDD := Lib.hid hd
            clear hd
            go_wp2_with fail
            refine (HI.out G HU2.out k w2 HU2.out HG.out hlt HS2.out).mono ?_
            rintro e w3 ⟨rfl, G', hf, hS3⟩
            have HF := Lib.hid hf; have HS3 := Lib.hid hS3
            clear hf hS3
            go_wp2_with fail
            go_roundw
            case rel => exact ⟨k + 1, by omega, by go_num, Lib.hid ⟨_, Nat.le_trans (unf_le HF.out.mono) HU2.out, HW.out.call HP.out HDD.out HF.out, HS3.out⟩⟩
            case measure => simp [intOf]; omega
      · obtain rfl : k = n := by omega
        go_wp2_with fail
        go_end0
        obtain ⟨G, hu, hw, hS⟩ := HX.out
        exact ⟨rfl, G, hw.end_ HP.out, hS⟩
end
theorem FdW.start (w : World) (c : Cf) (vp vd vw vg : Value) : FdW w c vp vd vw vg (w.heap.size + 1) w.heap.size (w.heap.size + 1 + 1) noB
    (((w.alloc (.cells #[.int .i64 c.fr, vp, vd, .int .i64 c.mj, vw, vg, .int .i64 c.se, .int .i64 c.qu, .int .i64 c.qt] 27)).alloc (.cells #[.bool false, .bool false, .bool false, .bool false] 72)).alloc
      (.cells #[.func (.func 23) #[] #[.pointer (some ⟨w.heap.size + 1, 0, none⟩), .pointer (some ⟨w.heap.size, 0, none⟩), .pointer (some ⟨w.heap.size + 1 + 1, 0, none⟩)]] 73)) := by
  have b1 : Below w.heap.size w (w.alloc (.cells #[.int .i64 c.fr, vp, vd, .int .i64 c.mj, vw, vg, .int .i64 c.se, .int .i64 c.qu, .int .i64 c.qt] 27)) := (Below.refl _ _).alloc (Nat.le_refl _) _
  have k0 : Blk (w.alloc (.cells #[.int .i64 c.fr, vp, vd, .int .i64 c.mj, vw, vg, .int .i64 c.se, .int .i64 c.qu, .int .i64 c.qt] 27)) w.heap.size 27 (cfc c vp vd vw vg) := Blk.new w _ (cfc c vp vd vw vg)
  have hs : (w.alloc (.cells #[.int .i64 c.fr, vp, vd, .int .i64 c.mj, vw, vg, .int .i64 c.se, .int .i64 c.qu, .int .i64 c.qt] 27)).heap.size = w.heap.size + 1 := World.size_alloc _ _
  generalize w.alloc (.cells #[.int .i64 c.fr, vp, vd, .int .i64 c.mj, vw, vg, .int .i64 c.se, .int .i64 c.qu, .int .i64 c.qt] 27) = w1 at *
  have b2 : Below w.heap.size w (w1.alloc (.cells #[.bool false, .bool false, .bool false, .bool false] 72)) := b1.alloc b1.size _
  have k1 : Blk (w1.alloc (.cells #[.bool false, .bool false, .bool false, .bool false] 72)) (w.heap.size + 1) 72 (bitc noB 4) := by rw [← hs]; exact Blk.new w1 _ (bitc noB 4)
  have k01 := k0.alloc (.cells #[.bool false, .bool false, .bool false, .bool false] 72)
  have hs2 : (w1.alloc (.cells #[.bool false, .bool false, .bool false, .bool false] 72)).heap.size = w.heap.size + 1 + 1 := by rw [World.size_alloc, hs]
  generalize w1.alloc (.cells #[.bool false, .bool false, .bool false, .bool false] 72) = w2 at *
  have hn := Blk.new w2 73 [.func (.func 23) #[] #[.pointer (some ⟨w.heap.size + 1, 0, none⟩), .pointer (some ⟨w.heap.size, 0, none⟩), .pointer (some ⟨w.heap.size + 1 + 1, 0, none⟩)]]
  rw [hs2] at hn
  exact ⟨k1.alloc _, k01.alloc _, hn, by omega, b2.alloc b2.size _⟩
theorem FdW.tk {w w' : World} {c : Cf} {vp vd vw vg : Value} {gF gc gf : Nat} {F : Nat → Bool} (h : FdW w c vp vd vw vg gF gc gf F w') (hg : w.heap.size ≤ gc) :
    Tk nos w [obB gc 27 (cfc c vp vd vw vg), obB gF 72 (bitc F 4)] w' := by
  have hne : gc ≠ gF := h.cb.apart h.fb (by decide)
  have hF := h.gF
  refine ⟨fun k => k = gc ∨ (k = gF ∨ nos k), ⟨fun k => k = gc, fun k => k = gF ∨ nos k, ⟨h.cb, fun _ => Iff.rfl⟩, ⟨fun k => k = gF, nos, ⟨h.fb, fun _ => Iff.rfl⟩, fun _ => id, fun _ _ h => h, fun _ => Iff.rfl⟩, fun k a b => ?_, fun _ => Iff.rfl⟩, fun k hk hS => ?_, Fo.of h.below nos⟩
  · rcases b with b | b
    · exact hne (a.symm.trans b)
    · exact b
  · rcases hS with a | a | a
    · omega
    · omega
    · exact a
def flV (gc gF : Nat) : Value := .func (.func 25) #[] #[.pointer (some ⟨gc, 0, none⟩), .pointer (some ⟨gF, 0, none⟩)]
section
variable {w : World} {c : Cf} {vp vd vw vg : Value}
theorem vflowsto_any (hc : CfAt w vp vd vw vg c) (h4 : c.ps.length ≤ 4) (p : Nat) (hp : p < c.ps.length) :
    Calls Try.prog 18 #[.agg #[.int .i64 c.fr, vp, vd, .int .i64 c.mj, vw, vg, .int .i64 c.se, .int .i64 c.qu, .int .i64 c.qt], .int .i64 (p : Int)] w fun e w' => ∃ gc gF, e = .returned (flV gc gF) ∧
      Tk nos w [obB gc 27 (cfc c vp vd vw vg), obB gF 72 (bitc (fun i => FL c i p) 4)] w' := by
  have HF := Lib.hid (fun (W : World) (a b g : Nat) => vfind_any (gc := a) (gF := b) (gf := g) hc h4 c.ps.length noB p W (by unfold unf; exact Nat.le_trans (List.length_filter_le _ _) (by rw [List.length_range]; exact Nat.le_refl _)) rfl hp)
  have HP := Lib.hid hp
  clear hc h4
  go_enter Try.func18, Try.ntmps18
  go_wp2_with fail
  refine (HF.out _ _ _ _ (FdW.start w c vp vd vw vg)).mono ?_
  rintro e w4 ⟨rfl, F', hf, hS⟩
  rw [found_FL hf] at hS
  have HT := Lib.hid (hS.tk (Nat.le_refl _))
  clear hf hS
  go_wp2_with fail
  go_ret
  exact ⟨_, _, rfl, HT.out⟩
theorem vflow2_any (hc : CfAt w vp vd vw vg c) (h4 : c.ps.length ≤ 4) (p : Nat) (gc gF : Nat) (hb : Blk w gc 27 (cfc c vp vd vw vg)) (hf : Blk w gF 72 (bitc (fun i => FL c i p) 4)) (x : Int) :
    Calls Try.prog 25 #[.int .i64 x, .pointer (some ⟨gc, 0, none⟩), .pointer (some ⟨gF, 0, none⟩)] w fun e w' => e = .returned (.bool (flI c x p)) ∧ Below w.heap.size w w' := by
  obtain ⟨q0, q1, q2, q3, q4, q5, q6, q7, q8⟩ := cf_at hb
  have HH := Lib.hid (vhaspart_any hc x)
  cases hx : inP c.ps.length x with
  | false =>
    have HR := Lib.hid (show flI c x p = false by unfold flI; rw [hx]; rfl)
    rw [hx] at HH
    clear hb hf hc hx
    go_enter Try.func25, Try.ntmps25
    go_wp2_with fail
    refine HH.out.mono ?_
    rintro e w1 ⟨rfl, b1⟩
    have HB := Lib.hid b1
    clear b1
    go_wp2_with fail
    go_ret
    exact ⟨by rw [HR.out]; rfl, HB.out⟩
  | true =>
    obtain ⟨k, rfl, hx2⟩ := (inP_iff _ _).1 hx
    have hk4 : (k : Int) < 4 := by omega
    have HR := Lib.hid (show flI c k p = FL c k p by unfold flI; rw [hx]; simp)
    rw [hx] at HH
    have HBF := Lib.hid hf
    clear hb hf hc hx hx2
    go_enter Try.func25, Try.ntmps25
    go_wp2_with fail
    refine HH.out.mono ?_
    rintro e w1 ⟨rfl, b1⟩
    have k0 := ((HBF.out.below b1 HBF.out.lt).cell k).trans (bitc_get (fun i => FL c i p) 4 k (by omega))
    have HB := Lib.hid b1
    clear b1
    go_wp2_with fail
    go_ret
    exact ⟨by rw [HR.out]; rfl, HB.out⟩
theorem cfMay_n {c : Cf} (h : cfMay c = true) : 1 ≤ c.ps.length ∧ c.ps.length ≤ 4 ∧ 1 ≤ c.ds.length ∧ c.ds.length ≤ 4 := by
  unfold cfMay psB dsB at h
  simp only [Bool.and_eq_true, btw_iff] at h
  omega
theorem vflows_any (hc : CfAt w vp vd vw vg c) (x y : Int) :
    Calls Try.prog 11 #[.agg #[.int .i64 c.fr, vp, vd, .int .i64 c.mj, vw, vg, .int .i64 c.se, .int .i64 c.qu, .int .i64 c.qt], .int .i64 x, .int .i64 y] w fun e w' => e = .returned (.bool (flB c x y)) ∧ Below w.heap.size w w' := by
  obtain ⟨hb, hB⟩ := cf_box w c vp vd vw vg
  have HBB := Lib.hid hb; have HB := Lib.hid hB; have HA := Lib.hid (hc.below hB)
  obtain ⟨q0, q1, q2, q3, q4, q5, q6, q7, q8⟩ := cf_at hb
  clear hb hB hc
  have HM := Lib.hid (cmay_any HA.out)
  cases hm : cfMay c with
  | false =>
    have HR := Lib.hid (show flB c x y = false by unfold flB; rw [hm]; rfl)
    rw [hm] at HM
    clear hm
    go_enter Try.func11, Try.ntmps11
    go_wp2_with fail
    refine HM.out.mono ?_
    rintro e w1 ⟨rfl, b1⟩
    have HB1 := Lib.hid b1
    clear b1
    go_wp2_with fail
    go_ret
    exact ⟨by rw [HR.out]; rfl, Below.down HB.out HB1.out HB.out.size⟩
  | true =>
    have HN := Lib.hid (cfMay_n hm)
    rw [hm] at HM
    cases hy : inP c.ps.length y with
    | false =>
      have HR := Lib.hid (show flB c x y = false by unfold flB; rw [hm, hy]; rfl)
      have HH := Lib.hid (fun W hW => (vhaspart_any (w := W) (HA.out.below hW) y))
      rw [hy] at HH
      clear hm hy
      go_enter Try.func11, Try.ntmps11
      go_wp2_with fail
      generalize w.alloc (.cells #[.int .i64 c.fr, vp, vd, .int .i64 c.mj, vw, vg, .int .i64 c.se, .int .i64 c.qu, .int .i64 c.qt] 27) = w0 at *
      refine HM.out.mono ?_
      rintro e w1 ⟨rfl, b1⟩
      obtain ⟨q0, q1, q2, q3, q4, q5, q6, q7, q8⟩ := cf_at (HBB.out.below b1 HBB.out.lt)
      have HB1 := Lib.hid b1
      clear b1
      go_wp2_with fail
      refine (HH.out w1 HB1.out).mono ?_
      rintro e w2 ⟨rfl, b2⟩
      have HB2 := Lib.hid (Below.down HB1.out b2 HB1.out.size)
      clear b2
      go_wp2_with fail
      go_ret
      exact ⟨by rw [HR.out]; rfl, Below.down HB.out HB2.out HB.out.size⟩
    | true =>
      obtain ⟨p, rfl, hp⟩ := (inP_iff _ _).1 hy
      have HR := Lib.hid (show flB c x (p : Int) = flI c x p by unfold flB; rw [hm, hy]; simp)
      have HH := Lib.hid (fun W hW => (vhaspart_any (w := W) (HA.out.below hW) (p : Int)))
      rw [hy] at HH
      have HP := Lib.hid hp
      clear hm hy hp
      go_enter Try.func11, Try.ntmps11
      go_wp2_with fail
      generalize w.alloc (.cells #[.int .i64 c.fr, vp, vd, .int .i64 c.mj, vw, vg, .int .i64 c.se, .int .i64 c.qu, .int .i64 c.qt] 27) = w0 at *
      refine HM.out.mono ?_
      rintro e w1 ⟨rfl, b1⟩
      obtain ⟨q0, q1, q2, q3, q4, q5, q6, q7, q8⟩ := cf_at (HBB.out.below b1 HBB.out.lt)
      have HB1 := Lib.hid b1
      clear b1
      go_wp2_with fail
      refine (HH.out w1 HB1.out).mono ?_
      rintro e w2 ⟨rfl, b2⟩
      have HB2 := Lib.hid (Below.down HB1.out b2 HB1.out.size)
      clear b2 q0 q1 q2 q3 q4 q5 q6 q7 q8
      obtain ⟨q0, q1, q2, q3, q4, q5, q6, q7, q8⟩ := cf_at (HBB.out.below HB2.out HBB.out.lt)
      go_wp2_with fail
      refine (vflowsto_any (HA.out.below HB2.out) HN.out.2.1 p HP.out).mono ?_
      rintro e w3 ⟨gc, gF, rfl, t3⟩
      have HT := Lib.hid t3
      have HB3 := Lib.hid (Below.down HB2.out t3.below HB2.out.size)
      clear t3
      unfold flV
      go_wp2_with fail
      refine (vflow2_any (HA.out.below HB3.out) HN.out.2.1 p gc gF (HT.out.blk (i := 0) rfl) (HT.out.blk (i := 1) rfl) x).mono ?_
      rintro e w4 ⟨rfl, b4⟩
      have HB4 := Lib.hid (Below.down HB3.out b4 HB3.out.size)
      clear b4
      go_wp2_with fail
      go_ret
      exact ⟨by rw [HR.out]; rfl, Below.down HB.out HB4.out HB.out.size⟩
end
end Go.Proofs.Ytkaalinoiilmoaa
namespace Go.Proofs.Ytkaalinoiilmoaa
open Go.RowKit Go.ChangeMaps
set_option linter.unusedVariables false
set_option linter.unusedSimpArgs false
set_option maxRecDepth 100000
section
variable {w : World} {c : Cf} {vp vd vw vg : Value}
theorem cfMay_q {c : Cf} (h : cfMay c = true) : 1 ≤ c.qt ∧ c.qt ≤ 8 := by
  unfold cfMay qtB at h
  simp only [Bool.and_eq_true, btw_iff] at h
  omega
theorem cfMay_dv {c : Cf} (h : cfMay c = true) : ∀ j, j < c.ds.length → adB c.ps.length ((c.ds.map (·.pt)).getD j 0) = true := by
  unfold cfMay dsB at h
  simp only [Bool.and_eq_true] at h
  have h2 := h.2.2.1.2
  rw [List.all_eq_true] at h2
  intro j hj
  have h3 := h2 _ (List.getElem_mem hj)
  unfold dvB_Cf0 at h3
  rw [Bool.and_eq_true] at h3
  have h4 := h3.1
  simpa [List.getD, List.getElem?_map, List.getElem?_eq_getElem hj, adB, inP] using h4
set_option maxHeartbeats 2000000 in
theorem vdevs_any (hc : CfAt w vp vd vw vg c) (hm : cfMay c = true) :
    Calls Try.prog 26 #[.agg #[.int .i64 c.fr, vp, vd, .int .i64 c.mj, vw, vg, .int .i64 c.se, .int .i64 c.qu, .int .i64 c.qt]] w fun e w' => ∃ g, e = .returned (.pointer (some ⟨g, 0, none⟩)) ∧ Tk nos w [obPA g c.qt.toNat c.ps.length c.ds.length (zO (c.ds.map (·.pt)) c.ds.length) noN] w' := by
  obtain ⟨i0, hi, hz0, hz1, hz2⟩ := info_parts infoIntA
  have HI := Lib.hid hi; have HZ0 := Lib.hid hz0; have HZ1 := Lib.hid hz1; have HZ2 := Lib.hid hz2
  clear hi hz0 hz1 hz2
  obtain ⟨p1, p4, d1, d4⟩ := cfMay_n hm
  obtain ⟨u1, u8⟩ := cfMay_q hm
  have hdv := Lib.hid (cfMay_dv hm)
  obtain ⟨Ap, cap, rfl, _⟩ := hc.ps
  obtain ⟨A, cad, b, o, sv, rfl, hA, hr⟩ := hc.ds.rows
  obtain ⟨rfl, hb⟩ := hA (by omega)
  have HR := Lib.hid (fun i hi => And.intro (hr i hi).1 (show ∃ A2 n2 c2, sv i = .slice A2 n2 c2 by obtain ⟨A2, c2, e, _⟩ := (hr i hi).2; exact ⟨_, _, _, e⟩))
  clear hr hA hm
  have hk : Blk (w.alloc (.cells #[.int .i64 c.fr, .slice Ap c.ps.length cap, .slice (some ⟨b, o, none⟩) c.ds.length cad, .int .i64 c.mj, vw, vg, .int .i64 c.se, .int .i64 c.qu, .int .i64 c.qt] 27)) w.heap.size 27 (cfc c (.slice Ap c.ps.length cap) (.slice (some ⟨b, o, none⟩) c.ds.length cad) vw vg) := (cf_box w c _ _ vw vg).1
  have T0 : Hid (Tk nos w [obJ (.slice none 0 0) ((c.ds.map (·.pt)).take 0), obB w.heap.size 27 (cfc c (.slice Ap c.ps.length cap) (.slice (some ⟨b, o, none⟩) c.ds.length cad) vw vg)] (w.alloc (.cells #[.int .i64 c.fr, .slice Ap c.ps.length cap, .slice (some ⟨b, o, none⟩) c.ds.length cad, .int .i64 c.mj, vw, vg, .int .i64 c.se, .int .i64 c.qu, .int .i64 c.qt] 27))) := Lib.hid
    (((Tk.empty w).alloc 27 (cfc c (.slice Ap c.ps.length cap) (.slice (some ⟨b, o, none⟩) c.ds.length cad) vw vg)).addR (v := .slice none 0 0) (n := 0) (xs := []) (Below.refl _ _) (World.ownsRow_nil _ _ _ _))
  have HL := Lib.hid (show (c.ds.map (·.pt)).length = c.ds.length by simp)
  have HE := Lib.hid (fun k (h : k < c.ds.length) => show (c.ds.map (·.pt)).take (k + 1) = (c.ds.map (·.pt)).take k ++ [(c.ds.getD k deD).pt] by
    rw [List.take_succ_eq_append_getElem (by simpa using h)]; simp [List.getD, List.getElem?_eq_getElem h])
  obtain ⟨q0, q1, q2, q3, q4, q5, q6, q7, q8⟩ := cf_at hk
  obtain ⟨U, hU⟩ : ∃ U : Nat, c.qt = U := ⟨c.qt.toNat, by omega⟩
  have HUq := Lib.hid hU
  clear hk hc hU
  generalize c.ds.map (·.pt) = P at *
  go_enter Try.func26, Try.ntmps26
  go_wp2_with fail
  generalize w.alloc (.cells #[.int .i64 c.fr, .slice Ap c.ps.length cap, .slice (some ⟨b, o, none⟩) c.ds.length cad, .int .i64 c.mj, vw, vg, .int .i64 c.se, .int .i64 c.qu, .int .i64 c.qt] 27) = w1 at *
  have HB := Lib.hid hb
  clear hb
  generalize hd : c.ds.length = D at *
  have HD := Lib.hid hd
  clear hd
  generalize hy : w.heap.size = y at *
  have HY := Lib.hid hy
  clear hy q0 q1 q2 q3 q4 q5 q6 q7 q8
  go_loopw [3, 11, 5] (fun v i d wr => ∃ (k : Nat), k ≤ D ∧ i = .int .i64 k ∧ d = d ∧ Hid (Tk nos w [obJ v (P.take k), obB y 27 (cfc c (.slice Ap c.ps.length cap) (.slice (some ⟨b, o, none⟩) D cad) vw vg)] wr)) (fun _ i _ _ => 4 - (intOf i).toNat)
  case atStart => exact ⟨0, by omega, rfl, rfl, T0⟩
  case round =>
    clear T0
    obtain ⟨k, hkD, rfl, -, HT⟩ := hrel
    by_cases hlt : k < D
    · have hltI : (k : Int) < D := by omega
      have hbel := HT.out.below
      have hsz := hbel.size
      have r0 := (hbel.cell (p := ⟨b, o + k * 2, none⟩) (by rw [HY.out]; exact HB.out)).trans (HR.out k hlt).1.1
      have r1 := (hbel.cell (p := ⟨b, o + k * 2 + 1, none⟩) (by rw [HY.out]; exact HB.out)).trans (HR.out k hlt).1.2
      obtain ⟨A2, n2, c2, hsk⟩ := (HR.out k hlt).2
      rw [hsk] at r1
      have HEk := Lib.hid (HE.out k hlt)
      have t1 := HT.out.alloc 64 [.int .i64 (c.ds.getD k deD).pt, .slice A2 n2 c2]
      have hlen : (P.take k).length ≤ 4 := by rw [List.length_take]; omega
      generalize (c.ds.getD k deD).pt = pt at *
      clear hsk
      have c0 := ((t1.blk (i := 0) rfl).cell 0).trans rfl
      have T1 := Lib.hid t1
      clear t1 hbel hsz
      generalize hlk : P.take k = lk at *
      clear hlk
      go_upto_region 5 with fail
      generalize wr.alloc (.cells #[.int .i64 pt, .slice A2 n2 c2] 64) = w4 at *
      have BL := Lib.hid (show Below w4.heap.size w4 (w4.alloc (.cells #[.int .i64 pt] 3)) from (Below.refl _ _).alloc (Nat.le_refl _) _)
      go_wp2_with (at_builtin; refine wpList_append_lies _ rfl _ _ 46 rfl 0 3 i0 _ 1 8 Try.underlying46 HI.out HZ0.out HZ1.out HZ2.out rfl (by decide) u3 lk.length (ints lk) rfl (own_below (T1.out.row (i := 1) rfl) BL.out) ⟨w4.heap.size, 0, none⟩ 1 1 [.int .i64 pt] rfl rfl (row_new w4 [.int .i64 pt] 3) (int1A pt) (by omega) (by unfold maxLen; omega) (by omega) (by omega) _ rfl ?_)
      intro gg cap6 w6 own6 gr6 hat6 hlt6
      have t5 := T1.out.next BL.out
      have t6 : Tk nos w [obB wr.heap.size 64 [.int .i64 pt, .slice A2 n2 c2], obJ (.slice (some ⟨gg, 0, none⟩) (lk.length + 1) cap6) (P.take (k + 1)), obB y 27 (cfc c (.slice Ap c.ps.length cap) (.slice (some ⟨b, o, none⟩) D cad) vw vg)] w6 := by
        refine t5.turnR (i := 1) rfl gr6 (by rw [HEk.out, ints_append, List.length_append]; exact own6) (fun x hx => ?_)
        have e : gg = x := by simpa [Value.ownBlock] using hx
        subst e
        rcases hat6 with h | h
        · exact .inl h
        · exact .inr (by simp at h ⊢; omega)
      have T6 := Lib.hid t6.tail
      clear own6 gr6 hat6 hlt6 t5 t6 r0 r1 c0
      go_wp2_with fail
      go_roundw
      case rel => exact ⟨k + 1, by omega, by go_num, trivial, T6⟩
      case measure => simp [intOf]; omega
    · obtain rfl : k = D := by omega
      obtain ⟨q0, q1, q2, q3, q4, q5, q6, q7, q8⟩ := cf_at (HT.out.blk (i := 1) rfl)
      go_wp2_with fail
      rw [HUq.out]
      have hP : P.take k = P := List.take_of_length_le (by rw [HL.out]; omega)
      rw [hP] at HT
      have hkP := HL.out
      have hS := HT.out.sl (i := 0) rfl
      refine (anew_yes U c.ps.length u3 k P wr (by rw [← hkP]; exact hS) (by have := HUq.out; omega) (by have := HUq.out; omega) p1 p4 d1 d4 hdv.out).mono ?_
      rintro e w5 ⟨g, rfl, t5⟩
      have T5 := Lib.hid ((HT.out.add t5).sub (List.Sublist.cons_cons _ (List.nil_sublist _)) : Tk nos w [obPA g U c.ps.length k (zO P k) noN] w5)
      clear hS t5 hkP hP q0 q1 q2 q3 q4 q5 q6 q7 q8
      go_wp2_with fail
      go_ret
      exact ⟨g, rfl, by rw [HUq.out, HD.out]; exact T5.out⟩
end
end Go.Proofs.Ytkaalinoiilmoaa
namespace Go.Proofs.Ytkaalinoiilmoaa
open Go.RowKit Go.ChangeMaps
set_option linter.unusedVariables false
set_option linter.unusedSimpArgs false
set_option maxRecDepth 100000
structure HI where
  gt : Nat
  gd : Nat
  gl : Nat
  gc : Nat
  gF : Nat
  g : Nat
  vp : Value
  vd : Value
  vw : Value
  vg : Value
def heV (i : HI) : Value := .func (.func 27) #[] #[.pointer (some ⟨i.gt, 0, none⟩), .pointer (some ⟨i.gd, 0, none⟩), .pointer (some ⟨i.gl, 0, none⟩)]
noncomputable def hO (i : HI) (c : Cf) (p : Nat) (h : Hs) (os : List Ob) : List Ob :=
  obB i.gt 3 [.int .i64 h.t] :: obB i.gd 74 [.pointer (some ⟨i.g, 0, none⟩)] :: obB i.gl 59 [flV i.gc i.gF] ::
  obB i.gc 27 (cfc c i.vp i.vd i.vw i.vg) :: obB i.gF 72 (bitc (fun i => FL c i p) 4) :: obPA i.g c.qt.toNat c.ps.length c.ds.length h.O h.L :: os
section
variable {w : World} {c : Cf} {vp vd vw vg : Value}
theorem vhearing_any (hc : CfAt w vp vd vw vg c) (hm : cfMay c = true) (p : Nat) (hp : p < c.ps.length) :
    Calls Try.prog 19 #[.agg #[.int .i64 c.fr, vp, vd, .int .i64 c.mj, vw, vg, .int .i64 c.se, .int .i64 c.qu, .int .i64 c.qt], .int .i64 (p : Int)] w fun e w' => ∃ i : HI, e = .returned (heV i) ∧ (i.vp = vp ∧ i.vd = vd ∧ i.vw = vw ∧ i.vg = vg) ∧ Tk nos w (hO i c p (hsNew c) []) w' := by
  obtain ⟨hb, hB⟩ := cf_box w c vp vd vw vg
  have HBB := Lib.hid hb; have HB := Lib.hid hB; have HA := Lib.hid (hc.below hB)
  have HM := Lib.hid hm; have HP := Lib.hid hp; have HN := Lib.hid (cfMay_n hm)
  obtain ⟨q0, q1, q2, q3, q4, q5, q6, q7, q8⟩ := cf_at hb
  clear hb hB hc hm hp
  go_enter Try.func19, Try.ntmps19
  go_wp2_with fail
  generalize w.alloc (.cells #[.int .i64 c.fr, vp, vd, .int .i64 c.mj, vw, vg, .int .i64 c.se, .int .i64 c.qu, .int .i64 c.qt] 27) = w1 at *
  refine (vflowsto_any HA.out HN.out.2.1 p HP.out).mono ?_
  rintro e w2 ⟨gc, gF, rfl, t2⟩
  have t3 := t2.alloc 59 [flV gc gF]
  have T3 := Lib.hid t3
  have c3 := cf_at (HBB.out.below t3.below HBB.out.lt)
  clear t2 t3 q0 q1 q2 q3 q4 q5 q6 q7 q8
  obtain ⟨q0, q1, q2, q3, q4, q5, q6, q7, q8⟩ := c3
  unfold flV at *
  go_wp2_with fail
  generalize w2.alloc (.cells #[.func (.func 25) #[] #[.pointer (some ⟨gc, 0, none⟩), .pointer (some ⟨gF, 0, none⟩)]] 59) = w3 at *
  generalize w2.heap.size = gl at *
  refine (vdevs_any (HA.out.below T3.out.below) HM.out).mono ?_
  rintro e w4 ⟨g, rfl, t4⟩
  have t5 := ((T3.out.add t4).alloc 74 [.pointer (some ⟨g, 0, none⟩)])
  have t6 := t5.alloc 3 [.int .i64 0]
  have T6 := Lib.hid t6
  clear t4 t5 t6 q0 q1 q2 q3 q4 q5 q6 q7 q8 T3
  go_wp2_with fail
  go_ret
  refine ⟨⟨_, _, gl, gc, gF, g, vp, vd, vw, vg⟩, rfl, ⟨rfl, rfl, rfl, rfl⟩, ?_⟩
  have t7 := ((Tk.empty w).next HB.out).add (T6.out.perm (.cons _ (.cons _ (List.perm_append_comm (l₁ := [obPA g c.qt.toNat c.ps.length c.ds.length (zO (c.ds.map (·.pt)) c.ds.length) noN])))))
  simp only [World.size_alloc] at t7
  exact t7
end
theorem stp_cells {w : World} {b : Nat} {x : Stp} (h : Blk w b 39 (stc x)) : w.cell? ⟨b, 0, none⟩ = some (.int .i64 x.k) ∧ w.cell? ⟨b, 1, none⟩ = some (.int .i64 x.p) ∧ w.cell? ⟨b, 2, none⟩ = some (.int .i64 x.d) ∧ w.cell? ⟨b, 3, none⟩ = some (.int .i64 x.a) ∧ w.cell? ⟨b, 4, none⟩ = some (.int .i64 x.b) ∧ w.cell? ⟨b, 5, none⟩ = some (.int .i64 x.c) ∧ w.cell? ⟨b, 6, none⟩ = some (.string x.s) := by
  have e : ∀ k, w.cell? ⟨b, k, none⟩ = (stc x)[k]? := fun k => h.cell k
  exact ⟨(e 0).trans rfl, (e 1).trans rfl, (e 2).trans rfl, (e 3).trans rfl, (e 4).trans rfl, (e 5).trans rfl, (e 6).trans rfl⟩
structure HrS (S : Nat → Prop) (W0 : World) (i : HI) (c : Cf) (p : Nat) (hs : Hs) (os : List Ob) (y : Nat) (s : Stp) (w : World) : Prop where
  tk : Tk S W0 (obB y 39 (stc s) :: hO i c p hs os) w
  ca : CfAt w i.vp i.vd i.vw i.vg c
section
variable {S : Nat → Prop} {W0 w w' : World} {i : HI} {c : Cf} {p : Nat} {hs : Hs} {os : List Ob} {y : Nat} {s : Stp}
theorem HrS.next (h : HrS S W0 i c p hs os y s w) (hb : Below w.heap.size w w') : HrS S W0 i c p hs os y s w' := ⟨h.tk.next hb, h.ca.below hb⟩
theorem HrS.drew (h : HrS S W0 i c p hs os y s w) : HrS S W0 i c p hs os y s w.drew := h.next (bdrewN (Below.refl _ _) 1)
theorem HrS.drewN (h : HrS S W0 i c p hs os y s w) (n : Nat) : HrS S W0 i c p hs os y s (w.drewN n) := h.next (bdrewN (Below.refl _ _) n)
theorem HrS.cells (h : HrS S W0 i c p hs os y s w) : w.cell? ⟨i.gt, 0, none⟩ = some (.int .i64 hs.t) ∧ w.cell? ⟨i.gd, 0, none⟩ = some (.pointer (some ⟨i.g, 0, none⟩)) ∧ w.cell? ⟨i.gl, 0, none⟩ = some (flV i.gc i.gF) :=
  ⟨((h.tk.blk (i := 1) rfl).cell 0).trans rfl, ((h.tk.blk (i := 2) rfl).cell 0).trans rfl, ((h.tk.blk (i := 3) rfl).cell 0).trans rfl⟩
theorem HrS.held (h : HrS S W0 i c p hs os y s w) : w.cell? ⟨i.gd, 0, none⟩ = some (.pointer (some ⟨i.g, 0, none⟩)) ∧ w.cell? ⟨i.gl, 0, none⟩ = some (flV i.gc i.gF) ∧ w.cell? ⟨y, 2, none⟩ = some (.int .i64 s.d) ∧ HrS S W0 i c p hs os y s w :=
  ⟨h.cells.2.1, h.cells.2.2, (stp_cells (h.tk.blk (i := 0) rfl)).2.2.1, h⟩
theorem HrS.flow (h : HrS S W0 i c p hs os y s w) (h4 : c.ps.length ≤ 4) (x : Int) : Calls Try.prog 25 #[.int .i64 x, .pointer (some ⟨i.gc, 0, none⟩), .pointer (some ⟨i.gF, 0, none⟩)] w fun e w' => e = .returned (.bool (flI c x p)) ∧ Below w.heap.size w w' :=
  vflow2_any h.ca h4 p i.gc i.gF (h.tk.blk (i := 4) rfl) (h.tk.blk (i := 5) rfl) x
set_option maxHeartbeats 2000000 in
theorem tk_hear (hm : cfMay c = true) (ht : hs.t ≤ 1048575) (hc : CfAt w i.vp i.vd i.vw i.vg c) (h : Tk S W0 (hO i c p hs os) w) (s : Stp) :
    Calls Try.prog 27 #[.agg #[.int .i64 s.k, .int .i64 s.p, .int .i64 s.d, .int .i64 s.a, .int .i64 s.b, .int .i64 s.c, .string s.s], .pointer (some ⟨i.gt, 0, none⟩), .pointer (some ⟨i.gd, 0, none⟩), .pointer (some ⟨i.gl, 0, none⟩)] w fun e w' => e = .returned (.bool (hdB c p hs s)) ∧ Tk S W0 (hO i c p (hdS c hs s) os) w' := by
  have h4 := (cfMay_n hm).2.1
  have hq := cfMay_q hm
  have hS : HrS S W0 i c p hs os w.heap.size s (w.alloc (.cells #[.int .i64 s.k, .int .i64 s.p, .int .i64 s.d, .int .i64 s.a, .int .i64 s.b, .int .i64 s.c, .string s.s] 39)) := ⟨h.alloc 39 (stc s), hc.below ((Below.refl _ _).alloc (Nat.le_refl _) _)⟩
  obtain ⟨k, p', d, a, b, c', x⟩ := s
  dsimp only at hS ⊢
  obtain ⟨s0, s1, s2, s3, s4, s5, s6⟩ := stp_cells (hS.tk.blk (i := 0) rfl)
  obtain ⟨k0, k1, k2⟩ := hS.cells
  have f0 := (hS.tk.blk (i := 1) rfl).frozen 0
  dsimp only at s0 s1 s2 s3 s4 s5 s6
  have HS := Lib.hid hS
  clear hm hc h hS
  unfold flV at k2
  rcases (show (k = 1 ∧ hs.t < 1048575) ∨ (k = 1 ∧ hs.t = 1048575) ∨ k = 2 ∨ k = 3 ∨ k = 4 ∨ (5 ≤ k ∧ k ≤ 16) ∨ k < 1 ∨ 16 < k by omega) with ⟨rfl, hlt⟩ | ⟨rfl, hlt⟩ | rfl | rfl | rfl | ⟨ha, hb⟩ | ha | ha
  · have HR := Lib.hid (show hdB c p hs ⟨1, p', d, a, b, c', x⟩ = true ∧ hdS c hs ⟨1, p', d, a, b, c', x⟩ = ⟨hs.t + 1, hs.O, atL hs.L c.ds.length⟩ from ⟨rfl, by unfold hdS; rw [if_pos rfl, if_pos hlt]⟩)
    have hl1 : (hs.t : Int) < 1048575 := by omega
    have t1 := HS.out.tk.store (i := 1) rfl 0 (.int .i64 ((hs.t + 1 : Nat) : Int))
    have k1' := (((t1.blk (i := 2) rfl).cell 0).trans rfl : _ = some (.pointer (some ⟨i.g, 0, none⟩)))
    rw [show ((hs.t + 1 : Nat) : Int) = (hs.t : Int) + 1 by omega] at t1 k1'
    have T1 := Lib.hid t1
    clear t1
    go_enter Try.func27, Try.ntmps27
    go_wp2_with fail
    refine (tk_atick _ T1.out (i := 6) rfl).mono ?_
    rintro e w2 ⟨v, rfl, t2⟩
    have T2 := Lib.hid t2
    clear t2 T1 HS k0 k1 k2 k1' f0 s0 s1 s2 s3 s4 s5 s6
    go_wp2_with fail
    go_ret
    rw [HR.out.1, HR.out.2]
    exact ⟨rfl, by have := T2.out.tail.tail; exact this⟩
  · have HR := Lib.hid (show hdB c p hs ⟨1, p', d, a, b, c', x⟩ = true ∧ hdS c hs ⟨1, p', d, a, b, c', x⟩ = hs from ⟨rfl, by unfold hdS; rw [if_pos rfl, if_neg (by omega)]⟩)
    rw [hlt] at k0
    clear hlt ht
    go_enter Try.func27, Try.ntmps27
    go_wp2_with fail
    go_ret
    rw [HR.out.1, HR.out.2]
    exact ⟨rfl, HS.out.tk.tail⟩
  · have HR := Lib.hid (show hdB c p hs ⟨2, p', d, a, b, c', x⟩ = true ∧ hdS c hs ⟨2, p', d, a, b, c', x⟩ = ⟨hs.t, amO c.ds.length c.ps.length hs.O hs.L d a, amL c.ds.length c.ps.length c.qt.toNat hs.L d a⟩ from ⟨rfl, rfl⟩)
    go_enter Try.func27, Try.ntmps27
    go_wp2_with fail
    refine (tk_amove d a _ HS.out.tk (i := 6) rfl).mono ?_
    rintro e w2 ⟨rfl, t2⟩
    have T2 := Lib.hid t2
    clear t2 HS k0 k1 k2 f0 s0 s1 s2 s3 s4 s5 s6
    go_wp2_with fail
    go_ret
    rw [HR.out.1, HR.out.2]
    exact ⟨rfl, T2.out.tail⟩
  · have HR := Lib.hid (show hdB c p hs ⟨3, p', d, a, b, c', x⟩ = flI c (aoX c.ds.length hs.O hs.L d) p ∧ hdS c hs ⟨3, p', d, a, b, c', x⟩ = hs from ⟨by unfold hdB; rw [if_pos (by dsimp only; omega)], rfl⟩)
    go_enter Try.func27, Try.ntmps27
    go_wp2_with fail
    generalize w.alloc (.cells #[.int .i64 3, .int .i64 p', .int .i64 d, .int .i64 a, .int .i64 b, .int .i64 c', .string x] 39) = w1 at *
    generalize w.heap.size = y at *
    have hS := HS.out
    clear s0 s1 s3 s4 s5 s6 k0 f0
    go_region_held3 (fun w' => w'.cell? ⟨i.gd, 0, none⟩ = some (.pointer (some ⟨i.g, 0, none⟩)) ∧ w'.cell? ⟨i.gl, 0, none⟩ = some (.func (.func 25) #[] #[.pointer (some ⟨i.gc, 0, none⟩), .pointer (some ⟨i.gF, 0, none⟩)]) ∧ w'.cell? ⟨y, 2, none⟩ = some (.int .i64 d) ∧ HrS S W0 i c p hs os y ⟨3, p', d, a, b, c', x⟩ w')
      ((go_split_ands; refine HrS.held (i := i) (s := ⟨3, p', d, a, b, c', x⟩) ?_; (first | with_reducible assumption | with_reducible exact HrS.drew (by assumption) | with_reducible exact HrS.next (by assumption) (by assumption))))
      (first
        | (go_at_call 30; go_split_ands; refine (aowner_any d _ (Tk.pa (HrS.tk (S := S) (W0 := W0) (i := i) (c := c) (p := p) (hs := hs) (os := os) (y := y) (s := ⟨3, p', d, a, b, c', x⟩) (by assumption)) (i := 6) rfl)).mono ?_; rintro e w5 ⟨rfl, b5⟩)
        | (go_at_call 25; go_split_ands; refine (HrS.flow (S := S) (W0 := W0) (i := i) (c := c) (p := p) (hs := hs) (os := os) (y := y) (s := ⟨3, p', d, a, b, c', x⟩) (by assumption) h4 _).mono ?_; rintro e w6 ⟨rfl, b6⟩))
    all_goals
      rename_i hH
      have T9 := Lib.hid hH.2.2.2.tk.tail
      clear hH HS hS k1 k2 s2
      go_wp2_with fail
      go_ret
      rw [HR.out.1, HR.out.2]
      exact ⟨rfl, T9.out⟩
  · have HR := Lib.hid (show hdB c p hs ⟨4, p', d, a, b, c', x⟩ = flI c (aoX c.ds.length hs.O hs.L d) p ∧ hdS c hs ⟨4, p', d, a, b, c', x⟩ = hs from ⟨by unfold hdB; rw [if_pos (by dsimp only; omega)], rfl⟩)
    go_enter Try.func27, Try.ntmps27
    go_wp2_with fail
    generalize w.alloc (.cells #[.int .i64 4, .int .i64 p', .int .i64 d, .int .i64 a, .int .i64 b, .int .i64 c', .string x] 39) = w1 at *
    generalize w.heap.size = y at *
    have hS := HS.out
    clear s0 s1 s3 s4 s5 s6 k0 f0
    go_region_held3 (fun w' => w'.cell? ⟨i.gd, 0, none⟩ = some (.pointer (some ⟨i.g, 0, none⟩)) ∧ w'.cell? ⟨i.gl, 0, none⟩ = some (.func (.func 25) #[] #[.pointer (some ⟨i.gc, 0, none⟩), .pointer (some ⟨i.gF, 0, none⟩)]) ∧ w'.cell? ⟨y, 2, none⟩ = some (.int .i64 d) ∧ HrS S W0 i c p hs os y ⟨4, p', d, a, b, c', x⟩ w')
      ((go_split_ands; refine HrS.held (i := i) (s := ⟨4, p', d, a, b, c', x⟩) ?_; (first | with_reducible assumption | with_reducible exact HrS.drew (by assumption) | with_reducible exact HrS.next (by assumption) (by assumption))))
      (first
        | (go_at_call 30; go_split_ands; refine (aowner_any d _ (Tk.pa (HrS.tk (S := S) (W0 := W0) (i := i) (c := c) (p := p) (hs := hs) (os := os) (y := y) (s := ⟨4, p', d, a, b, c', x⟩) (by assumption)) (i := 6) rfl)).mono ?_; rintro e w5 ⟨rfl, b5⟩)
        | (go_at_call 25; go_split_ands; refine (HrS.flow (S := S) (W0 := W0) (i := i) (c := c) (p := p) (hs := hs) (os := os) (y := y) (s := ⟨4, p', d, a, b, c', x⟩) (by assumption) h4 _).mono ?_; rintro e w6 ⟨rfl, b6⟩))
    all_goals
      rename_i hH
      have T9 := Lib.hid hH.2.2.2.tk.tail
      clear hH HS hS k1 k2 s2
      go_wp2_with fail
      go_ret
      rw [HR.out.1, HR.out.2]
      exact ⟨rfl, T9.out⟩
  · have HR := Lib.hid (show hdB c p hs ⟨k, p', d, a, b, c', x⟩ = flI c p' p ∧ hdS c hs ⟨k, p', d, a, b, c', x⟩ = hs from ⟨by unfold hdB; rw [if_neg (by dsimp only; omega), if_pos ⟨ha, hb⟩], by unfold hdS; rw [if_neg (by dsimp only; omega), if_neg (by dsimp only; omega)]⟩)
    have e1 : (k == 1) = false := beq_eq_false_iff_ne.2 (by omega)
    have e2 : (k == 2) = false := beq_eq_false_iff_ne.2 (by omega)
    have e3 : (k == 3) = false := beq_eq_false_iff_ne.2 (by omega)
    have e4 : (k == 4) = false := beq_eq_false_iff_ne.2 (by omega)
    have HF := Lib.hid (HS.out.flow h4 p')
    go_enter Try.func27, Try.ntmps27
    go_wp2_with fail
    refine HF.out.mono ?_
    rintro e w2 ⟨rfl, b2⟩
    have T2 := Lib.hid (HS.out.tk.next b2)
    clear b2 HS HF k0 k1 k2 f0 s0 s1 s2 s3 s4 s5 s6
    go_wp2_with fail
    go_ret
    rw [HR.out.1, HR.out.2]
    exact ⟨rfl, T2.out.tail⟩
  · have HR := Lib.hid (show hdB c p hs ⟨k, p', d, a, b, c', x⟩ = true ∧ hdS c hs ⟨k, p', d, a, b, c', x⟩ = hs from ⟨by unfold hdB; rw [if_neg (by dsimp only; omega), if_neg (by dsimp only; omega)], by unfold hdS; rw [if_neg (by dsimp only; omega), if_neg (by dsimp only; omega)]⟩)
    have e1 : (k == 1) = false := beq_eq_false_iff_ne.2 (by omega)
    have e2 : (k == 2) = false := beq_eq_false_iff_ne.2 (by omega)
    have e3 : (k == 3) = false := beq_eq_false_iff_ne.2 (by omega)
    have e4 : (k == 4) = false := beq_eq_false_iff_ne.2 (by omega)
    have e5 : decide (5 ≤ k) = false := by simp; omega
    have e6 : decide (k ≤ 16) = true := by simp; omega
    clear ha
    go_enter Try.func27, Try.ntmps27
    go_wp2_with fail
    go_ret
    rw [HR.out.1, HR.out.2]
    exact ⟨rfl, HS.out.tk.tail⟩
  · have HR := Lib.hid (show hdB c p hs ⟨k, p', d, a, b, c', x⟩ = true ∧ hdS c hs ⟨k, p', d, a, b, c', x⟩ = hs from ⟨by unfold hdB; rw [if_neg (by dsimp only; omega), if_neg (by dsimp only; omega)], by unfold hdS; rw [if_neg (by dsimp only; omega), if_neg (by dsimp only; omega)]⟩)
    have e1 : (k == 1) = false := beq_eq_false_iff_ne.2 (by omega)
    have e2 : (k == 2) = false := beq_eq_false_iff_ne.2 (by omega)
    have e3 : (k == 3) = false := beq_eq_false_iff_ne.2 (by omega)
    have e4 : (k == 4) = false := beq_eq_false_iff_ne.2 (by omega)
    have e5 : decide (5 ≤ k) = true := by simp; omega
    have e6 : decide (k ≤ 16) = false := by simp; omega
    clear ha
    go_enter Try.func27, Try.ntmps27
    go_wp2_with fail
    go_ret
    rw [HR.out.1, HR.out.2]
    exact ⟨rfl, HS.out.tk.tail⟩
end
end Go.Proofs.Ytkaalinoiilmoaa
