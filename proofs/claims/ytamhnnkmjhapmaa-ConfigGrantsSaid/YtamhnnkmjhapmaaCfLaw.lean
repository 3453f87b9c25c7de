/-
  Layer 21's first law: Configs.
-/
import Derived.Test.YtamhnnkmjhapmaaChAll
import Derived.Test.YtamhnnkmjhapmaaCgAll
namespace Go.Proofs.Ytamhnnkmjhapmaa
open Go.RowKit
set_option linter.unusedVariables false
set_option linter.unusedSimpArgs false
set_option maxRecDepth 100000

/-- The config's block, the copy's; nothing that was there has turned. -/
structure CgS (w1 : World) (c : Cf) (vp vd vw vg xp xd xw xg : Value) (g1 g2 : Nat) (w' : World) : Prop where
  a : Blk w' g1 27 (cfc c vp vd vw vg)
  b : Blk w' g2 27 (cfc c xp xd xw xg)
  below : Below w1.heap.size w1 w'
section
variable {w1 w' w2 : World} {c : Cf} {vp vd vw vg xp xd xw xg : Value} {g1 g2 : Nat}
theorem CgS.next (h : CgS w1 c vp vd vw vg xp xd xw xg g1 g2 w') (hb : Below w'.heap.size w' w2) : CgS w1 c vp vd vw vg xp xd xw xg g1 g2 w2 := ⟨h.a.below hb h.a.lt, h.b.below hb h.b.lt, Below.down h.below hb h.below.size⟩
theorem CgS.drew (h : CgS w1 c vp vd vw vg xp xd xw xg g1 g2 w') : CgS w1 c vp vd vw vg xp xd xw xg g1 g2 w'.drew := h.next (bdrewN (Below.refl _ _) 1)
theorem CgS.all (h : CgS w1 c vp vd vw vg xp xd xw xg g1 g2 w') : (w'.cell? ⟨g1, 0, none⟩ = some (.int .i64 c.fr) ∧ w'.cell? ⟨g1, 1, none⟩ = some (vp) ∧ w'.cell? ⟨g1, 2, none⟩ = some (vd) ∧ w'.cell? ⟨g1, 3, none⟩ = some (.int .i64 c.mj) ∧ w'.cell? ⟨g1, 4, none⟩ = some (vw) ∧ w'.cell? ⟨g1, 5, none⟩ = some (vg) ∧ w'.cell? ⟨g1, 6, none⟩ = some (.int .i64 c.se) ∧ w'.cell? ⟨g1, 7, none⟩ = some (.int .i64 c.qu) ∧ w'.cell? ⟨g1, 8, none⟩ = some (.int .i64 c.qt)) ∧ (w'.cell? ⟨g2, 0, none⟩ = some (.int .i64 c.fr) ∧ w'.cell? ⟨g2, 1, none⟩ = some (xp) ∧ w'.cell? ⟨g2, 2, none⟩ = some (xd) ∧ w'.cell? ⟨g2, 3, none⟩ = some (.int .i64 c.mj) ∧ w'.cell? ⟨g2, 4, none⟩ = some (xw) ∧ w'.cell? ⟨g2, 5, none⟩ = some (xg) ∧ w'.cell? ⟨g2, 6, none⟩ = some (.int .i64 c.se) ∧ w'.cell? ⟨g2, 7, none⟩ = some (.int .i64 c.qu) ∧ w'.cell? ⟨g2, 8, none⟩ = some (.int .i64 c.qt)) ∧ CgS w1 c vp vd vw vg xp xd xw xg g1 g2 w' := ⟨cf_at h.a, cf_at h.b, h⟩
end

theorem CfAt.forms {w : World} {vp vd vw vg : Value} {c : Cf} (h : CfAt w vp vd vw vg c) : ∃ A1 n1 k1 A2 n2 k2 A3 n3 k3 A4 n4 k4, vp = .slice A1 n1 k1 ∧ vd = .slice A2 n2 k2 ∧ vw = .slice A3 n3 k3 ∧ vg = .slice A4 n4 k4 := by
  obtain ⟨A1, k1, e1, _⟩ := h.ps
  obtain ⟨A2, k2, e2, _⟩ := h.ds
  obtain ⟨A3, k3, e3⟩ := h.ws.form
  obtain ⟨A4, k4, e4, _⟩ := h.gs
  exact ⟨A1, _, k1, A2, _, k2, A3, _, k3, A4, _, k4, e1, e2, e3, e4⟩

set_option maxHeartbeats 4000000 in
theorem law_Configs (c : Cf) (vp vd vw vg : Value) (a1 a2 a3 : Int) (w : World) (h : CfAt w vp vd vw vg c) :
    Calls Try.prog 3 #[.agg #[.int .i64 c.fr, vp, vd, .int .i64 c.mj, vw, vg, .int .i64 c.se, .int .i64 c.qu, .int .i64 c.qt], .int .i64 a1, .int .i64 a2, .int .i64 a3] w fun e w' => e = .returned (.bool true) ∧ Below w.heap.size w w' := by
  obtain ⟨hb, hB⟩ := cf_box w c vp vd vw vg
  have HB := Lib.hid hB; have HV := Lib.hid hb; have H1 := Lib.hid (h.below hB)
  obtain ⟨f0, f1, f2, f3, f4, f5, f6, f7, f8⟩ := cf_at hb
  have HCP := Lib.hid (copy_cfg (h.below hB))
  clear h hb hB
  go_enter Try.func3, Try.ntmps3
  go_wp2_with fail
  refine HCP.out.mono ?_
  rintro e w0 ⟨xp, xd, xw, xg, rfl, hx, b0⟩
  obtain ⟨A1, n1, k1, A2, n2, k2, A3, n3, k3, A4, n4, k4, ep, ed, ew, eg⟩ := hx.forms
  subst ep ed ew eg
  have hA : Below w0.heap.size w0 (w0.alloc (.cells #[.int .i64 c.fr, (.slice A1 n1 k1), (.slice A2 n2 k2), .int .i64 c.mj, (.slice A3 n3 k3), (.slice A4 n4 k4), .int .i64 c.se, .int .i64 c.qu, .int .i64 c.qt] 27)) := (Below.refl _ _).alloc (Nat.le_refl _) _
  have hS : CgS (w0.alloc (.cells #[.int .i64 c.fr, (.slice A1 n1 k1), (.slice A2 n2 k2), .int .i64 c.mj, (.slice A3 n3 k3), (.slice A4 n4 k4), .int .i64 c.se, .int .i64 c.qu, .int .i64 c.qt] 27)) c vp vd vw vg (.slice A1 n1 k1) (.slice A2 n2 k2) (.slice A3 n3 k3) (.slice A4 n4 k4) w.heap.size w0.heap.size (w0.alloc (.cells #[.int .i64 c.fr, (.slice A1 n1 k1), (.slice A2 n2 k2), .int .i64 c.mj, (.slice A3 n3 k3), (.slice A4 n4 k4), .int .i64 c.se, .int .i64 c.qu, .int .i64 c.qt] 27)) :=
    ⟨(HV.out.below b0 HV.out.lt).alloc _, Blk.new w0 _ (cfc c (.slice A1 n1 k1) (.slice A2 n2 k2) (.slice A3 n3 k3) (.slice A4 n4 k4)), Below.refl _ _⟩
  have HX := Lib.hid (fun (W : World) (hW : Below (w0.alloc (.cells #[.int .i64 c.fr, (.slice A1 n1 k1), (.slice A2 n2 k2), .int .i64 c.mj, (.slice A3 n3 k3), (.slice A4 n4 k4), .int .i64 c.se, .int .i64 c.qu, .int .i64 c.qt] 27)).heap.size (w0.alloc (.cells #[.int .i64 c.fr, (.slice A1 n1 k1), (.slice A2 n2 k2), .int .i64 c.mj, (.slice A3 n3 k3), (.slice A4 n4 k4), .int .i64 c.se, .int .i64 c.qu, .int .i64 c.qt] 27)) W) => (hx.below hA).below hW)
  have HC := Lib.hid (fun (W : World) (hW : Below (w0.alloc (.cells #[.int .i64 c.fr, (.slice A1 n1 k1), (.slice A2 n2 k2), .int .i64 c.mj, (.slice A3 n3 k3), (.slice A4 n4 k4), .int .i64 c.se, .int .i64 c.qu, .int .i64 c.qt] 27)).heap.size (w0.alloc (.cells #[.int .i64 c.fr, (.slice A1 n1 k1), (.slice A2 n2 k2), .int .i64 c.mj, (.slice A3 n3 k3), (.slice A4 n4 k4), .int .i64 c.se, .int .i64 c.qu, .int .i64 c.qt] 27)) W) => ((H1.out.below b0).below hA).below hW)
  have HB1 := Lib.hid (Below.down (Below.down HB.out b0 HB.out.size) hA (by have := HB.out.size; have := b0.size; omega))
  clear hA hx b0 f0 f1 f2 f3 f4 f5 f6 f7 f8 HCP
  go_wp2_with fail
  generalize w0.alloc (.cells #[.int .i64 c.fr, (.slice A1 n1 k1), (.slice A2 n2 k2), .int .i64 c.mj, (.slice A3 n3 k3), (.slice A4 n4 k4), .int .i64 c.se, .int .i64 c.qu, .int .i64 c.qt] 27) = w1 at *
  generalize w0.heap.size = g2 at *
  obtain ⟨g1, hg1⟩ : ∃ g1, w.heap.size = g1 := ⟨_, rfl⟩
  have HG1 := Lib.hid hg1
  rw [hg1] at hS
  rw [hg1]
  clear hg1
  obtain ⟨⟨f0, f1, f2, f3, f4, f5, f6, f7, f8⟩, ⟨x0, x1, x2, x3, x4, x5, x6, x7, x8⟩, hS'⟩ := hS.all
  refine wp_region_held_drew (S := (fun w' => (w'.cell? ⟨g1, 0, none⟩ = some (.int .i64 c.fr) ∧ w'.cell? ⟨g1, 1, none⟩ = some (vp) ∧ w'.cell? ⟨g1, 2, none⟩ = some (vd) ∧ w'.cell? ⟨g1, 3, none⟩ = some (.int .i64 c.mj) ∧ w'.cell? ⟨g1, 4, none⟩ = some (vw) ∧ w'.cell? ⟨g1, 5, none⟩ = some (vg) ∧ w'.cell? ⟨g1, 6, none⟩ = some (.int .i64 c.se) ∧ w'.cell? ⟨g1, 7, none⟩ = some (.int .i64 c.qu) ∧ w'.cell? ⟨g1, 8, none⟩ = some (.int .i64 c.qt)) ∧ (w'.cell? ⟨g2, 0, none⟩ = some (.int .i64 c.fr) ∧ w'.cell? ⟨g2, 1, none⟩ = some (.slice A1 n1 k1) ∧ w'.cell? ⟨g2, 2, none⟩ = some (.slice A2 n2 k2) ∧ w'.cell? ⟨g2, 3, none⟩ = some (.int .i64 c.mj) ∧ w'.cell? ⟨g2, 4, none⟩ = some (.slice A3 n3 k3) ∧ w'.cell? ⟨g2, 5, none⟩ = some (.slice A4 n4 k4) ∧ w'.cell? ⟨g2, 6, none⟩ = some (.int .i64 c.se) ∧ w'.cell? ⟨g2, 7, none⟩ = some (.int .i64 c.qu) ∧ w'.cell? ⟨g2, 8, none⟩ = some (.int .i64 c.qt)) ∧ CgS w1 c vp vd vw vg (.slice A1 n1 k1) (.slice A2 n2 k2) (.slice A3 n3 k3) (.slice A4 n4 k4) g1 g2 w')) (by kernel_rfl) ?_ (fun hHeld => ?_)
  · try dsimp only
    (go_split_ands; refine CgS.all ?_; (first | assumption | (exact CgS.drew (by assumption)) | (exact CgS.next (by assumption) (by assumption))))
  refine wpAnyH_take (i := 0) (v := ?v0zL) rfl (by kernel_rfl) (by kernel_rfl) (by kernel_rfl) (fun _ _ _ h => h) (Or.inl ⟨by rfl, ?hy0zL⟩) (by assumption) ?rest0zL
  case hy0zL => intro w hSw; (try dsimp only at hSw); first | (go_simp; done) | (go_simp; with_reducible rfl)
  try simp only [Act.put, List.getElem_toArray, List.getElem_cons_succ, List.getElem_cons_zero, List.setIfInBounds_toArray, List.set_cons_zero, List.set_cons_succ]
  refine wpAnyH_take (i := 2) (v := ?v2zL) rfl (by kernel_rfl) (by kernel_rfl) (by kernel_rfl) (fun _ _ _ h => h) (Or.inl ⟨by rfl, ?hy2zL⟩) (by assumption) ?rest2zL
  case hy2zL => intro w hSw; (try dsimp only at hSw); first | (go_simp; done) | (go_simp; with_reducible rfl)
  try simp only [Act.put, List.getElem_toArray, List.getElem_cons_succ, List.getElem_cons_zero, List.setIfInBounds_toArray, List.set_cons_zero, List.set_cons_succ]
  refine wpAnyH_ready (rs := [1]) (by kernel_rfl) (by simp) ?_
  refine AllReadyH.cons rfl (fun K hK => ?_) AllReadyH.nil
  go_simp
  refine (cmay_any (HX.out _ hHeld.2.2.below)).mono ?_
  rintro e wk ⟨rfl, hbk⟩
  go_wp2_with fail
  refine hK.out _ _ ?_ (fun hHeld2 => ?_)
  · try dsimp only
    (go_split_ands; refine CgS.all ?_; (first | assumption | (exact CgS.drew (by assumption)) | (exact CgS.next (by assumption) (by assumption))))
  clear hK K hHeld
  have hHeld := hHeld2; clear hHeld2
  try simp only [Act.put, List.getElem_toArray, List.getElem_cons_succ, List.getElem_cons_zero, List.setIfInBounds_toArray, List.set_cons_zero, List.set_cons_succ]
  refine wpAnyH_ready (rs := [3]) (by kernel_rfl) (by simp) ?_
  refine AllReadyH.cons rfl (fun K hK => ?_) AllReadyH.nil
  go_simp
  refine (rcmay_any (HC.out _ hHeld.2.2.below)).mono ?_
  rintro e wk ⟨rfl, hbk⟩
  go_wp2_with fail
  refine hK.out _ _ ?_ (fun hHeld2 => ?_)
  · try dsimp only
    (go_split_ands; refine CgS.all ?_; (first | assumption | (exact CgS.drew (by assumption)) | (exact CgS.next (by assumption) (by assumption))))
  clear hK K hHeld
  have hHeld := hHeld2; clear hHeld2
  try simp only [Act.put, List.getElem_toArray, List.getElem_cons_succ, List.getElem_cons_zero, List.setIfInBounds_toArray, List.set_cons_zero, List.set_cons_succ]
  refine wpAnyH_take (i := 4) (v := ?v4zL) rfl (by kernel_rfl) (by kernel_rfl) (by kernel_rfl) (fun _ _ _ h => h) (Or.inl ⟨by rfl, ?hy4zL⟩) (by assumption) ?rest4zL
  case hy4zL => intro w hSw; (try dsimp only at hSw); first | (go_simp; done) | (go_simp; with_reducible rfl)
  try simp only [Act.put, List.getElem_toArray, List.getElem_cons_succ, List.getElem_cons_zero, List.setIfInBounds_toArray, List.set_cons_zero, List.set_cons_succ]
  refine wpAnyH_take (i := 5) (v := ?v5zL) rfl (by kernel_rfl) (by kernel_rfl) (by kernel_rfl) (fun _ _ _ h => h) (Or.inl ⟨by rfl, ?hy5zL⟩) (by assumption) ?rest5zL
  case hy5zL => intro w hSw; (try dsimp only at hSw); first | (go_simp; done) | (go_simp; with_reducible rfl)
  try simp only [Act.put, List.getElem_toArray, List.getElem_cons_succ, List.getElem_cons_zero, List.setIfInBounds_toArray, List.set_cons_zero, List.set_cons_succ]
  refine wpAnyH_take (i := 6) (v := ?v6zL) rfl (by kernel_rfl) (by kernel_rfl) (by kernel_rfl) (fun _ _ _ h => h) (Or.inl ⟨by rfl, ?hy6zL⟩) (by assumption) ?rest6zL
  case hy6zL => intro w hSw; (try dsimp only at hSw); first | (go_simp; done) | (go_simp; with_reducible rfl)
  try simp only [Act.put, List.getElem_toArray, List.getElem_cons_succ, List.getElem_cons_zero, List.setIfInBounds_toArray, List.set_cons_zero, List.set_cons_succ]
  refine wpAnyH_take (i := 7) (v := ?v7zL) rfl (by kernel_rfl) (by kernel_rfl) (by kernel_rfl) (fun _ _ _ h => h) (Or.inl ⟨by rfl, ?hy7zL⟩) (by assumption) ?rest7zL
  case hy7zL => intro w hSw; (try dsimp only at hSw); first | (go_simp; done) | (go_simp; with_reducible rfl)
  try simp only [Act.put, List.getElem_toArray, List.getElem_cons_succ, List.getElem_cons_zero, List.setIfInBounds_toArray, List.set_cons_zero, List.set_cons_succ]
  refine wpAnyH_take (i := 8) (v := ?v8zL) rfl (by kernel_rfl) (by kernel_rfl) (by kernel_rfl) (fun _ _ _ h => h) (Or.inl ⟨by rfl, ?hy8zL⟩) (by assumption) ?rest8zL
  case hy8zL => intro w hSw; (try dsimp only at hSw); first | (go_simp; done) | (go_simp; with_reducible rfl)
  try simp only [Act.put, List.getElem_toArray, List.getElem_cons_succ, List.getElem_cons_zero, List.setIfInBounds_toArray, List.set_cons_zero, List.set_cons_succ]
  refine wpAnyH_take (i := 9) (v := ?v9zL) rfl (by kernel_rfl) (by kernel_rfl) (by kernel_rfl) (fun _ _ _ h => h) (Or.inl ⟨by rfl, ?hy9zL⟩) (by assumption) ?rest9zL
  case hy9zL => intro w hSw; (try dsimp only at hSw); first | (go_simp; done) | (go_simp; with_reducible rfl)
  try simp only [Act.put, List.getElem_toArray, List.getElem_cons_succ, List.getElem_cons_zero, List.setIfInBounds_toArray, List.set_cons_zero, List.set_cons_succ]
  refine wpAnyH_take (i := 11) (v := ?v11zL) rfl (by kernel_rfl) (by kernel_rfl) (by kernel_rfl) (fun _ _ _ h => h) (Or.inl ⟨by rfl, ?hy11zL⟩) (by assumption) ?rest11zL
  case hy11zL => intro w hSw; (try dsimp only at hSw); first | (go_simp; done) | (go_simp; with_reducible rfl)
  try simp only [Act.put, List.getElem_toArray, List.getElem_cons_succ, List.getElem_cons_zero, List.setIfInBounds_toArray, List.set_cons_zero, List.set_cons_succ]
  refine wpAnyH_take (i := 12) (v := ?v12zL) rfl (by kernel_rfl) (by kernel_rfl) (by kernel_rfl) (fun _ _ _ h => h) (Or.inl ⟨by rfl, ?hy12zL⟩) (by assumption) ?rest12zL
  case hy12zL => intro w hSw; (try dsimp only at hSw); first | (go_simp; done) | (go_simp; with_reducible rfl)
  try simp only [Act.put, List.getElem_toArray, List.getElem_cons_succ, List.getElem_cons_zero, List.setIfInBounds_toArray, List.set_cons_zero, List.set_cons_succ]
  refine wpAnyH_take (i := 13) (v := ?v13zL) rfl (by kernel_rfl) (by kernel_rfl) (by kernel_rfl) (fun _ _ _ h => h) (Or.inl ⟨by rfl, ?hy13zL⟩) (by assumption) ?rest13zL
  case hy13zL => intro w hSw; (try dsimp only at hSw); first | (go_simp; done) | (go_simp; with_reducible rfl)
  try simp only [Act.put, List.getElem_toArray, List.getElem_cons_succ, List.getElem_cons_zero, List.setIfInBounds_toArray, List.set_cons_zero, List.set_cons_succ]
  refine wpAnyH_take (i := 14) (v := ?v14zL) rfl (by kernel_rfl) (by kernel_rfl) (by kernel_rfl) (fun _ _ _ h => h) (Or.inl ⟨by rfl, ?hy14zL⟩) (by assumption) ?rest14zL
  case hy14zL => intro w hSw; (try dsimp only at hSw); first | (go_simp; done) | (go_simp; with_reducible rfl)
  try simp only [Act.put, List.getElem_toArray, List.getElem_cons_succ, List.getElem_cons_zero, List.setIfInBounds_toArray, List.set_cons_zero, List.set_cons_succ]
  refine wpAnyH_ready (rs := [10]) (by kernel_rfl) (by simp) ?_
  refine AllReadyH.cons rfl (fun K hK => ?_) AllReadyH.nil
  go_simp
  refine (creads_any (HX.out _ hHeld.2.2.below) a1 a2 a3).mono ?_
  rintro e wk ⟨rfl, hbk⟩
  go_wp2_with fail
  refine hK.out _ _ ?_ (fun hHeld2 => ?_)
  · try dsimp only
    (go_split_ands; refine CgS.all ?_; (first | assumption | (exact CgS.drew (by assumption)) | (exact CgS.next (by assumption) (by assumption))))
  clear hK K hHeld
  have hHeld := hHeld2; clear hHeld2
  try simp only [Act.put, List.getElem_toArray, List.getElem_cons_succ, List.getElem_cons_zero, List.setIfInBounds_toArray, List.set_cons_zero, List.set_cons_succ]
  refine wpAnyH_ready (rs := [15]) (by kernel_rfl) (by simp) ?_
  refine AllReadyH.cons rfl (fun K hK => ?_) AllReadyH.nil
  go_simp
  refine (rreads_any (HC.out _ hHeld.2.2.below) a1 a2 a3).mono ?_
  rintro e wk ⟨rfl, hbk⟩
  go_wp2_with fail
  refine hK.out _ _ ?_ (fun hHeld2 => ?_)
  · try dsimp only
    (go_split_ands; refine CgS.all ?_; (first | assumption | (exact CgS.drew (by assumption)) | (exact CgS.next (by assumption) (by assumption))))
  clear hK K hHeld
  have hHeld := hHeld2; clear hHeld2
  try simp only [Act.put, List.getElem_toArray, List.getElem_cons_succ, List.getElem_cons_zero, List.setIfInBounds_toArray, List.set_cons_zero, List.set_cons_succ]
  refine wpAnyH_take (i := 16) (v := ?v16zL) rfl (by kernel_rfl) (by kernel_rfl) (by kernel_rfl) (fun _ _ _ h => h) (Or.inl ⟨by rfl, ?hy16zL⟩) (by assumption) ?rest16zL
  case hy16zL => intro w hSw; (try dsimp only at hSw); first | (go_simp; done) | (go_simp; with_reducible rfl)
  try simp only [Act.put, List.getElem_toArray, List.getElem_cons_succ, List.getElem_cons_zero, List.setIfInBounds_toArray, List.set_cons_zero, List.set_cons_succ]
  refine wpAnyH_take (i := 17) (v := ?v17zL) rfl (by kernel_rfl) (by kernel_rfl) (by kernel_rfl) (fun _ _ _ h => h) (Or.inl ⟨by rfl, ?hy17zL⟩) (by assumption) ?rest17zL
  case hy17zL => intro w hSw; (try dsimp only at hSw); first | (go_simp; done) | (go_simp; with_reducible rfl)
  try simp only [Act.put, List.getElem_toArray, List.getElem_cons_succ, List.getElem_cons_zero, List.setIfInBounds_toArray, List.set_cons_zero, List.set_cons_succ]
  refine wpAnyH_take (i := 18) (v := ?v18zL) rfl (by kernel_rfl) (by kernel_rfl) (by kernel_rfl) (fun _ _ _ h => h) (Or.inl ⟨by rfl, ?hy18zL⟩) (by assumption) ?rest18zL
  case hy18zL => intro w hSw; (try dsimp only at hSw); first | (go_simp; done) | (go_simp; with_reducible rfl)
  try simp only [Act.put, List.getElem_toArray, List.getElem_cons_succ, List.getElem_cons_zero, List.setIfInBounds_toArray, List.set_cons_zero, List.set_cons_succ]
  refine wpAnyH_take (i := 19) (v := ?v19zL) rfl (by kernel_rfl) (by kernel_rfl) (by kernel_rfl) (fun _ _ _ h => h) (Or.inl ⟨by rfl, ?hy19zL⟩) (by assumption) ?rest19zL
  case hy19zL => intro w hSw; (try dsimp only at hSw); first | (go_simp; done) | (go_simp; with_reducible rfl)
  try simp only [Act.put, List.getElem_toArray, List.getElem_cons_succ, List.getElem_cons_zero, List.setIfInBounds_toArray, List.set_cons_zero, List.set_cons_succ]
  refine wpAnyH_take (i := 20) (v := ?v20zL) rfl (by kernel_rfl) (by kernel_rfl) (by kernel_rfl) (fun _ _ _ h => h) (Or.inl ⟨by rfl, ?hy20zL⟩) (by assumption) ?rest20zL
  case hy20zL => intro w hSw; (try dsimp only at hSw); first | (go_simp; done) | (go_simp; with_reducible rfl)
  try simp only [Act.put, List.getElem_toArray, List.getElem_cons_succ, List.getElem_cons_zero, List.setIfInBounds_toArray, List.set_cons_zero, List.set_cons_succ]
  refine wpAnyH_take (i := 21) (v := ?v21zL) rfl (by kernel_rfl) (by kernel_rfl) (by kernel_rfl) (fun _ _ _ h => h) (Or.inl ⟨by rfl, ?hy21zL⟩) (by assumption) ?rest21zL
  case hy21zL => intro w hSw; (try dsimp only at hSw); first | (go_simp; done) | (go_simp; with_reducible rfl)
  try simp only [Act.put, List.getElem_toArray, List.getElem_cons_succ, List.getElem_cons_zero, List.setIfInBounds_toArray, List.set_cons_zero, List.set_cons_succ]
  refine wpAnyH_take (i := 22) (v := ?v22zL) rfl (by kernel_rfl) (by kernel_rfl) (by kernel_rfl) (fun _ _ _ h => h) (Or.inl ⟨by rfl, ?hy22zL⟩) (by assumption) ?rest22zL
  case hy22zL => intro w hSw; (try dsimp only at hSw); first | (go_simp; done) | (go_simp; with_reducible rfl)
  try simp only [Act.put, List.getElem_toArray, List.getElem_cons_succ, List.getElem_cons_zero, List.setIfInBounds_toArray, List.set_cons_zero, List.set_cons_succ]
  refine wpAnyH_take (i := 24) (v := ?v24zL) rfl (by kernel_rfl) (by kernel_rfl) (by kernel_rfl) (fun _ _ _ h => h) (Or.inl ⟨by rfl, ?hy24zL⟩) (by assumption) ?rest24zL
  case hy24zL => intro w hSw; (try dsimp only at hSw); first | (go_simp; done) | (go_simp; with_reducible rfl)
  try simp only [Act.put, List.getElem_toArray, List.getElem_cons_succ, List.getElem_cons_zero, List.setIfInBounds_toArray, List.set_cons_zero, List.set_cons_succ]
  refine wpAnyH_take (i := 25) (v := ?v25zL) rfl (by kernel_rfl) (by kernel_rfl) (by kernel_rfl) (fun _ _ _ h => h) (Or.inl ⟨by rfl, ?hy25zL⟩) (by assumption) ?rest25zL
  case hy25zL => intro w hSw; (try dsimp only at hSw); first | (go_simp; done) | (go_simp; with_reducible rfl)
  try simp only [Act.put, List.getElem_toArray, List.getElem_cons_succ, List.getElem_cons_zero, List.setIfInBounds_toArray, List.set_cons_zero, List.set_cons_succ]
  refine wpAnyH_take (i := 26) (v := ?v26zL) rfl (by kernel_rfl) (by kernel_rfl) (by kernel_rfl) (fun _ _ _ h => h) (Or.inl ⟨by rfl, ?hy26zL⟩) (by assumption) ?rest26zL
  case hy26zL => intro w hSw; (try dsimp only at hSw); first | (go_simp; done) | (go_simp; with_reducible rfl)
  try simp only [Act.put, List.getElem_toArray, List.getElem_cons_succ, List.getElem_cons_zero, List.setIfInBounds_toArray, List.set_cons_zero, List.set_cons_succ]
  refine wpAnyH_take (i := 27) (v := ?v27zL) rfl (by kernel_rfl) (by kernel_rfl) (by kernel_rfl) (fun _ _ _ h => h) (Or.inl ⟨by rfl, ?hy27zL⟩) (by assumption) ?rest27zL
  case hy27zL => intro w hSw; (try dsimp only at hSw); first | (go_simp; done) | (go_simp; with_reducible rfl)
  try simp only [Act.put, List.getElem_toArray, List.getElem_cons_succ, List.getElem_cons_zero, List.setIfInBounds_toArray, List.set_cons_zero, List.set_cons_succ]
  refine wpAnyH_ready (rs := [23]) (by kernel_rfl) (by simp) ?_
  refine AllReadyH.cons rfl (fun K hK => ?_) AllReadyH.nil
  go_simp
  refine (cwrites_any (HX.out _ hHeld.2.2.below) a1 a2 a3).mono ?_
  rintro e wk ⟨rfl, hbk⟩
  go_wp2_with fail
  refine hK.out _ _ ?_ (fun hHeld2 => ?_)
  · try dsimp only
    (go_split_ands; refine CgS.all ?_; (first | assumption | (exact CgS.drew (by assumption)) | (exact CgS.next (by assumption) (by assumption))))
  clear hK K hHeld
  have hHeld := hHeld2; clear hHeld2
  try simp only [Act.put, List.getElem_toArray, List.getElem_cons_succ, List.getElem_cons_zero, List.setIfInBounds_toArray, List.set_cons_zero, List.set_cons_succ]
  refine wpAnyH_ready (rs := [28]) (by kernel_rfl) (by simp) ?_
  refine AllReadyH.cons rfl (fun K hK => ?_) AllReadyH.nil
  go_simp
  refine (rwrites_any (HC.out _ hHeld.2.2.below) a1 a2 a3).mono ?_
  rintro e wk ⟨rfl, hbk⟩
  go_wp2_with fail
  refine hK.out _ _ ?_ (fun hHeld2 => ?_)
  · try dsimp only
    (go_split_ands; refine CgS.all ?_; (first | assumption | (exact CgS.drew (by assumption)) | (exact CgS.next (by assumption) (by assumption))))
  clear hK K hHeld
  have hHeld := hHeld2; clear hHeld2
  try simp only [Act.put, List.getElem_toArray, List.getElem_cons_succ, List.getElem_cons_zero, List.setIfInBounds_toArray, List.set_cons_zero, List.set_cons_succ]
  refine wpAnyH_take (i := 29) (v := ?v29zL) rfl (by kernel_rfl) (by kernel_rfl) (by kernel_rfl) (fun _ _ _ h => h) (Or.inl ⟨by rfl, ?hy29zL⟩) (by assumption) ?rest29zL
  case hy29zL => intro w hSw; (try dsimp only at hSw); first | (go_simp; done) | (go_simp; with_reducible rfl)
  try simp only [Act.put, List.getElem_toArray, List.getElem_cons_succ, List.getElem_cons_zero, List.setIfInBounds_toArray, List.set_cons_zero, List.set_cons_succ]
  refine wpAnyH_take (i := 30) (v := ?v30zL) rfl (by kernel_rfl) (by kernel_rfl) (by kernel_rfl) (fun _ _ _ h => h) (Or.inl ⟨by rfl, ?hy30zL⟩) (by assumption) ?rest30zL
  case hy30zL => intro w hSw; (try dsimp only at hSw); first | (go_simp; done) | (go_simp; with_reducible rfl)
  try simp only [Act.put, List.getElem_toArray, List.getElem_cons_succ, List.getElem_cons_zero, List.setIfInBounds_toArray, List.set_cons_zero, List.set_cons_succ]
  refine wpAnyH_take (i := 31) (v := ?v31zL) rfl (by kernel_rfl) (by kernel_rfl) (by kernel_rfl) (fun _ _ _ h => h) (Or.inl ⟨by rfl, ?hy31zL⟩) (by assumption) ?rest31zL
  case hy31zL => intro w hSw; (try dsimp only at hSw); first | (go_simp; done) | (go_simp; with_reducible rfl)
  try simp only [Act.put, List.getElem_toArray, List.getElem_cons_succ, List.getElem_cons_zero, List.setIfInBounds_toArray, List.set_cons_zero, List.set_cons_succ]
  refine wpAnyH_take (i := 32) (v := ?v32zL) rfl (by kernel_rfl) (by kernel_rfl) (by kernel_rfl) (fun _ _ _ h => h) (Or.inl ⟨by rfl, ?hy32zL⟩) (by assumption) ?rest32zL
  case hy32zL => intro w hSw; (try dsimp only at hSw); first | (go_simp; done) | (go_simp; with_reducible rfl)
  try simp only [Act.put, List.getElem_toArray, List.getElem_cons_succ, List.getElem_cons_zero, List.setIfInBounds_toArray, List.set_cons_zero, List.set_cons_succ]
  refine wpAnyH_take (i := 33) (v := ?v33zL) rfl (by kernel_rfl) (by kernel_rfl) (by kernel_rfl) (fun _ _ _ h => h) (Or.inl ⟨by rfl, ?hy33zL⟩) (by assumption) ?rest33zL
  case hy33zL => intro w hSw; (try dsimp only at hSw); first | (go_simp; done) | (go_simp; with_reducible rfl)
  try simp only [Act.put, List.getElem_toArray, List.getElem_cons_succ, List.getElem_cons_zero, List.setIfInBounds_toArray, List.set_cons_zero, List.set_cons_succ]
  refine wpAnyH_ready (rs := [34]) (by kernel_rfl) (by simp) ?_
  refine AllReadyH.cons rfl (fun K hK => ?_) AllReadyH.nil
  go_simp
  refine (same_cfg (HX.out _ hHeld.2.2.below) (HC.out _ hHeld.2.2.below)).mono ?_
  rintro e wk ⟨rfl, hbk⟩
  go_wp2_with fail
  refine hK.out _ _ ?_ (fun hHeld2 => ?_)
  · try dsimp only
    (go_split_ands; refine CgS.all ?_; (first | assumption | (exact CgS.drew (by assumption)) | (exact CgS.next (by assumption) (by assumption))))
  clear hK K hHeld
  have hHeld := hHeld2; clear hHeld2
  try simp only [Act.put, List.getElem_toArray, List.getElem_cons_succ, List.getElem_cons_zero, List.setIfInBounds_toArray, List.set_cons_zero, List.set_cons_succ]
  refine wpAnyH_take (i := 35) (v := ?v35zL) rfl (by kernel_rfl) (by kernel_rfl) (by kernel_rfl) (fun _ _ _ h => h) (Or.inl ⟨by rfl, ?hy35zL⟩) (by assumption) ?rest35zL
  case hy35zL => intro w hSw; (try dsimp only at hSw); first | (go_simp; done) | (go_simp; with_reducible rfl)
  try simp only [Act.put, List.getElem_toArray, List.getElem_cons_succ, List.getElem_cons_zero, List.setIfInBounds_toArray, List.set_cons_zero, List.set_cons_succ]
  refine wpAnyH_take (i := 36) (v := ?v36zL) rfl (by kernel_rfl) (by kernel_rfl) (by kernel_rfl) (fun _ _ _ h => h) (Or.inl ⟨by rfl, ?hy36zL⟩) (by assumption) ?rest36zL
  case hy36zL => intro w hSw; (try dsimp only at hSw); first | (go_simp; done) | (go_simp; with_reducible rfl)
  try simp only [Act.put, List.getElem_toArray, List.getElem_cons_succ, List.getElem_cons_zero, List.setIfInBounds_toArray, List.set_cons_zero, List.set_cons_succ]
  refine wpAnyH_ready (rs := [37]) (by kernel_rfl) (by simp) ?_
  refine AllReadyH.cons rfl (fun K hK => ?_) AllReadyH.nil
  go_simp
  refine (cawake_any _).mono ?_
  rintro e wk ⟨rfl, hbk⟩
  go_wp2_with fail
  refine hK.out _ _ ?_ (fun hHeld2 => ?_)
  · try dsimp only
    (go_split_ands; refine CgS.all ?_; (first | assumption | (exact CgS.drew (by assumption)) | (exact CgS.next (by assumption) (by assumption))))
  clear hK K hHeld
  have hHeld := hHeld2; clear hHeld2
  try simp only [Act.put, List.getElem_toArray, List.getElem_cons_succ, List.getElem_cons_zero, List.setIfInBounds_toArray, List.set_cons_zero, List.set_cons_succ]
  refine wpAnyH_take (i := 38) (v := ?v38zL) rfl (by kernel_rfl) (by kernel_rfl) (by kernel_rfl) (fun _ _ _ h => h) (Or.inl ⟨by rfl, ?hy38zL⟩) (by assumption) ?rest38zL
  case hy38zL => intro w hSw; (try dsimp only at hSw); first | (go_simp; done) | (go_simp; with_reducible rfl)
  try simp only [Act.put, List.getElem_toArray, List.getElem_cons_succ, List.getElem_cons_zero, List.setIfInBounds_toArray, List.set_cons_zero, List.set_cons_succ]
  refine wpAnyH_take (i := 39) (v := ?v39zL) rfl (by kernel_rfl) (by kernel_rfl) (by kernel_rfl) (fun _ _ _ h => h) (Or.inl ⟨by rfl, ?hy39zL⟩) (by assumption) ?rest39zL
  case hy39zL => intro w hSw; (try dsimp only at hSw); first | (go_simp; done) | (go_simp; with_reducible rfl)
  try simp only [Act.put, List.getElem_toArray, List.getElem_cons_succ, List.getElem_cons_zero, List.setIfInBounds_toArray, List.set_cons_zero, List.set_cons_succ]
  refine wpAnyH_done (by kernel_rfl) ?_ _
  all_goals
    have HS9 := Lib.hid hHeld.2.2
    clear hHeld
    go_wp2_with fail
    go_ret
    exact ⟨rfl, Below.down HB1.out HS9.out.below HB1.out.size⟩

end Go.Proofs.Ytamhnnkmjhapmaa
