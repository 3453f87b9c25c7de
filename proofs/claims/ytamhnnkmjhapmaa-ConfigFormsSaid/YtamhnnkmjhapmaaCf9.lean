/-
  Contracts of config's reaches, Reads, Writes.
-/
import Derived.Test.YtamhnnkmjhapmaaCf8
namespace Go.Proofs.Ytamhnnkmjhapmaa
open Go.RowKit
set_option linter.unusedVariables false
set_option linter.unusedSimpArgs false
set_option maxRecDepth 100000

section
variable {w1 w' w2 : World} {c : Cf} {vp vd vw vg fv : Value} {y y1 y2 z b q : Nat} {p xf xo xl : Int} {u : Value}
theorem RcS.all (hb : b < w1.heap.size) (hrow : w1.cell? ⟨b, q, none⟩ = some u) (h : RcS w1 c vp vd vw vg y y1 y2 z p fv xf xo xl w') :
    (w'.cell? ⟨y, 0, none⟩ = some (.int .i64 c.fr) ∧ w'.cell? ⟨y, 1, none⟩ = some vp ∧ w'.cell? ⟨y, 2, none⟩ = some vd ∧ w'.cell? ⟨y, 3, none⟩ = some (.int .i64 c.mj) ∧ w'.cell? ⟨y, 4, none⟩ = some vw ∧ w'.cell? ⟨y, 5, none⟩ = some vg ∧ w'.cell? ⟨y, 6, none⟩ = some (.int .i64 c.se) ∧ w'.cell? ⟨y, 7, none⟩ = some (.int .i64 c.qu) ∧ w'.cell? ⟨y, 8, none⟩ = some (.int .i64 c.qt)) ∧ w'.cell? ⟨y1, 0, none⟩ = some (.int .i64 p) ∧ w'.cell? ⟨y2, 0, none⟩ = some fv ∧ w'.cell? ⟨z, 0, none⟩ = some (.int .i64 xf) ∧ w'.cell? ⟨b, q, none⟩ = some u ∧ RcS w1 c vp vd vw vg y y1 y2 z p fv xf xo xl w' :=
  ⟨cf_at h.cb, h.pb.cell 0, h.fb.cell 0, h.xb.cell 0, (h.below.cell (p := ⟨b, q, none⟩) hb).trans hrow, h⟩
end


set_option maxHeartbeats 2000000 in
theorem rc1_r {w : World} {c : Cf} {vp vd vw vg : Value} (h : CfAt w vp vd vw vg c) (hu : unB c = true) (p : Nat) (hp : p < c.ps.length) (xf xo xl : Int) (y y1 y2 : Nat) (hy : Blk w y 27 (cfc c vp vd vw vg)) (hy1 : Blk w y1 3 [.int .i64 (p : Int)]) (hy2 : Blk w y2 61 [.func (.func 29) #[] #[]]) :
    Calls Try.prog 52 #[.agg #[.int .i64 xf, .int .i64 xo, .int .i64 xl], .pointer (some ⟨y, 0, none⟩), .pointer (some ⟨y1, 0, none⟩), .pointer (some ⟨y2, 0, none⟩)] w fun e w' => e = .returned (.bool (rcB c p xf false)) ∧ Below w.heap.size w w' := by
  have hB : Below w.heap.size w (w.alloc (.cells #[.int .i64 xf, .int .i64 xo, .int .i64 xl] 75)) := (Below.refl _ _).alloc (Nat.le_refl _) _
  have h1 := h.below hB
  have hz := h.pz.1
  have hzf := h.pz.2 p
  obtain ⟨A, cap, b, o, sv, rfl, hA, hr⟩ := h1.ps.rows
  obtain ⟨rfl, hb1⟩ := hA (by omega)
  obtain ⟨⟨-, -, hrow, -, -⟩, hsl⟩ := hr p hp
  obtain ⟨A2, c2, e2, -⟩ := hsl.below (Below.refl _ _)
  rw [e2] at hrow hsl
  have hown : rcB c p xf false = (memI (c.ps.getD p paD).fr xf || c.gs.any (cgB xf p false)) := by
    unfold memI
    rw [own_part hu p xf hp]; rfl
  have hS : RcS (w.alloc (.cells #[.int .i64 xf, .int .i64 xo, .int .i64 xl] 75)) c (.slice (some ⟨b, o, none⟩) c.ps.length cap) vd vw vg y y1 y2 w.heap.size (p : Int) (.func (.func 29) #[] #[]) xf xo xl (w.alloc (.cells #[.int .i64 xf, .int .i64 xo, .int .i64 xl] 75)) :=
    ⟨hy.alloc _, hy1.alloc _, hy2.alloc _, Blk.new _ _ _, Below.refl _ _⟩
  have HCT := Lib.hid (fun (W : World) (hW : Below (w.alloc (.cells #[.int .i64 xf, .int .i64 xo, .int .i64 xl] 75)).heap.size (w.alloc (.cells #[.int .i64 xf, .int .i64 xo, .int .i64 xl] 75)) W) => contains_any _ _ xf W (hsl.below hW) (by unfold maxLen; omega))
  have HCF := Lib.hid (fun (W : World) (hW : Below (w.alloc (.cells #[.int .i64 xf, .int .i64 xo, .int .i64 xl] 75)).heap.size (w.alloc (.cells #[.int .i64 xf, .int .i64 xo, .int .i64 xl] 75)) W) => h1.below hW)
  have HB := Lib.hid hB; have HX := Lib.hid hown
  clear h h1 hA hr hsl hB hu hy hy1 hy2 e2 hown
  generalize rcB c p xf false = Q at *
  generalize (c.ps.getD p paD).fr = fr at *
  generalize fr.length = m2 at *
  generalize c.ps.length = m at *
  have hpi : (p : Int) < (m : Int) := by omega
  have hzf2 : m2 ≤ 9223372036854775807 := by omega
  clear hzf
  go_enter Try.func52, Try.ntmps52
  go_wp2_with fail
  generalize w.alloc (.cells #[.int .i64 xf, .int .i64 xo, .int .i64 xl] 75) = w1 at *
  generalize hz9 : w.heap.size = z at *
  have HZ9 := Lib.hid hz9
  obtain ⟨⟨k0, k1, k2, k3, k4, k5, k6, k7, k8⟩, c0, c1, c2', c3, hS'⟩ := hS.all hb1 hrow
  clear hz9
  cases hm : memI fr xf with
  | true =>
    have HM := Lib.hid hm
    have HQ : Hid (Ending.returned (.bool true) = Ending.returned (.bool Q)) := Lib.hid (by rw [HX.out, hm]; rfl)
    clear hm
    refine wp_region_held_drew (S := (fun w' => (w'.cell? ⟨y, 0, none⟩ = some (.int .i64 c.fr) ∧ w'.cell? ⟨y, 1, none⟩ = some (.slice (some ⟨b, o, none⟩) m cap) ∧ w'.cell? ⟨y, 2, none⟩ = some vd ∧ w'.cell? ⟨y, 3, none⟩ = some (.int .i64 c.mj) ∧ w'.cell? ⟨y, 4, none⟩ = some vw ∧ w'.cell? ⟨y, 5, none⟩ = some vg ∧ w'.cell? ⟨y, 6, none⟩ = some (.int .i64 c.se) ∧ w'.cell? ⟨y, 7, none⟩ = some (.int .i64 c.qu) ∧ w'.cell? ⟨y, 8, none⟩ = some (.int .i64 c.qt)) ∧ w'.cell? ⟨y1, 0, none⟩ = some (.int .i64 (p : Int)) ∧ w'.cell? ⟨y2, 0, none⟩ = some (.func (.func 29) #[] #[]) ∧ w'.cell? ⟨z, 0, none⟩ = some (.int .i64 xf) ∧ w'.cell? ⟨b, o + p * 5 + 2, none⟩ = some (.slice A2 m2 c2) ∧ RcS w1 c (.slice (some ⟨b, o, none⟩) m cap) vd vw vg y y1 y2 z (p : Int) (.func (.func 29) #[] #[]) xf xo xl w')) (by kernel_rfl) ?_ (fun hHeld => ?_)
    · try dsimp only
      (go_split_ands; refine RcS.all hb1 hrow ?_; (first | assumption | (exact RcS.drew (by assumption)) | (exact RcS.next (by assumption) (by assumption))))
    refine wpAnyH_take (i := 0) (v := ?v0zY) rfl (by kernel_rfl) (by kernel_rfl) (by kernel_rfl) (fun _ _ _ h => h) (Or.inl ⟨by rfl, ?hy0zY⟩) (by assumption) ?rest0zY
    case hy0zY => intro w hSw; (try dsimp only at hSw); first | (go_simp; done) | (go_simp; with_reducible rfl)
    try simp only [Act.put, List.getElem_toArray, List.getElem_cons_succ, List.getElem_cons_zero, List.setIfInBounds_toArray, List.set_cons_zero, List.set_cons_succ]
    refine wpAnyH_take (i := 1) (v := ?v1zY) rfl (by kernel_rfl) (by kernel_rfl) (by kernel_rfl) (fun _ _ _ h => h) (Or.inl ⟨by rfl, ?hy1zY⟩) (by assumption) ?rest1zY
    case hy1zY => intro w hSw; (try dsimp only at hSw); first | (go_simp; done) | (go_simp; with_reducible rfl)
    try simp only [Act.put, List.getElem_toArray, List.getElem_cons_succ, List.getElem_cons_zero, List.setIfInBounds_toArray, List.set_cons_zero, List.set_cons_succ]
    refine wpAnyH_take (i := 2) (v := ?v2zY) rfl (by kernel_rfl) (by kernel_rfl) (by kernel_rfl) (fun _ _ _ h => h) (Or.inl ⟨by rfl, ?hy2zY⟩) (by assumption) ?rest2zY
    case hy2zY => intro w hSw; (try dsimp only at hSw); first | (go_simp; done) | (go_simp; with_reducible rfl)
    try simp only [Act.put, List.getElem_toArray, List.getElem_cons_succ, List.getElem_cons_zero, List.setIfInBounds_toArray, List.set_cons_zero, List.set_cons_succ]
    refine wpAnyH_take (i := 3) (v := ?v3zY) rfl (by kernel_rfl) (by kernel_rfl) (by kernel_rfl) (fun _ _ _ h => h) (Or.inl ⟨by rfl, ?hy3zY⟩) (by assumption) ?rest3zY
    case hy3zY => intro w hSw; (try dsimp only at hSw); first | (go_simp; done) | (go_simp; with_reducible rfl)
    try simp only [Act.put, List.getElem_toArray, List.getElem_cons_succ, List.getElem_cons_zero, List.setIfInBounds_toArray, List.set_cons_zero, List.set_cons_succ]
    refine wpAnyH_take (i := 4) (v := ?v4zY) rfl (by kernel_rfl) (by kernel_rfl) (by kernel_rfl) (fun _ _ _ h => h) (Or.inl ⟨by rfl, ?hy4zY⟩) (by assumption) ?rest4zY
    case hy4zY => intro w hSw; (try dsimp only at hSw); first | (go_simp; done) | (go_simp; with_reducible rfl)
    try simp only [Act.put, List.getElem_toArray, List.getElem_cons_succ, List.getElem_cons_zero, List.setIfInBounds_toArray, List.set_cons_zero, List.set_cons_succ]
    refine wpAnyH_take (i := 5) (v := ?v5zY) rfl (by kernel_rfl) (by kernel_rfl) (by kernel_rfl) (fun _ _ _ h => h) (Or.inl ⟨by rfl, ?hy5zY⟩) (by assumption) ?rest5zY
    case hy5zY => intro w hSw; (try dsimp only at hSw); first | (go_simp; done) | (go_simp; with_reducible rfl)
    try simp only [Act.put, List.getElem_toArray, List.getElem_cons_succ, List.getElem_cons_zero, List.setIfInBounds_toArray, List.set_cons_zero, List.set_cons_succ]
    refine wpAnyH_take (i := 6) (v := ?v6zY) rfl (by kernel_rfl) (by kernel_rfl) (by kernel_rfl) (fun _ _ _ h => h) (Or.inl ⟨by rfl, ?hy6zY⟩) (by assumption) ?rest6zY
    case hy6zY => intro w hSw; (try dsimp only at hSw); first | (go_simp; done) | (go_simp; with_reducible rfl)
    try simp only [Act.put, List.getElem_toArray, List.getElem_cons_succ, List.getElem_cons_zero, List.setIfInBounds_toArray, List.set_cons_zero, List.set_cons_succ]
    refine wpAnyH_take (i := 7) (v := ?v7zY) rfl (by kernel_rfl) (by kernel_rfl) (by kernel_rfl) (fun _ _ _ h => h) (Or.inl ⟨by rfl, ?hy7zY⟩) (by assumption) ?rest7zY
    case hy7zY => intro w hSw; (try dsimp only at hSw); first | (go_simp; done) | (go_simp; with_reducible rfl)
    try simp only [Act.put, List.getElem_toArray, List.getElem_cons_succ, List.getElem_cons_zero, List.setIfInBounds_toArray, List.set_cons_zero, List.set_cons_succ]
    refine wpAnyH_ready (rs := [8]) (by kernel_rfl) (by simp) ?_
    refine AllReadyH.cons rfl (fun K hK => ?_) AllReadyH.nil
    go_simp
    refine (HCT.out _ hHeld.2.2.2.2.2.below).mono ?_
    rintro e w5 ⟨rfl, hw5⟩
    subst hw5
    rw [HM.out]
    go_wp2_with fail
    refine hK.out _ _ ?_ (fun hHeld2 => ?_)
    · try dsimp only
      (go_split_ands; refine RcS.all hb1 hrow ?_; (first | assumption | (exact RcS.drew (by assumption)) | (exact RcS.next (by assumption) (by assumption))))
    clear hK K hHeld
    have hHeld := hHeld2; clear hHeld2
    try simp only [Act.put, List.getElem_toArray, List.getElem_cons_succ, List.getElem_cons_zero, List.setIfInBounds_toArray, List.set_cons_zero, List.set_cons_succ]
    refine wpAnyH_take (i := 9) (v := ?v9zY) rfl (by kernel_rfl) (by kernel_rfl) (by kernel_rfl) (fun _ _ _ h => h) (Or.inl ⟨by rfl, ?hy9zY⟩) (by assumption) ?rest9zY
    case hy9zY => intro w hSw; (try dsimp only at hSw); first | (go_simp; done) | (go_simp; with_reducible rfl)
    try simp only [Act.put, List.getElem_toArray, List.getElem_cons_succ, List.getElem_cons_zero, List.setIfInBounds_toArray, List.set_cons_zero, List.set_cons_succ]
    refine wpAnyH_take (i := 10) (v := undef) rfl (by kernel_rfl) (by kernel_rfl) (by kernel_rfl) (fun _ _ _ h => h) (Or.inr ⟨by rfl, rfl⟩) (by assumption) ?rest10zY
    try simp only [Act.put, List.getElem_toArray, List.getElem_cons_succ, List.getElem_cons_zero, List.setIfInBounds_toArray, List.set_cons_zero, List.set_cons_succ]
    refine wpAnyH_take (i := 11) (v := undef) rfl (by kernel_rfl) (by kernel_rfl) (by kernel_rfl) (fun _ _ _ h => h) (Or.inr ⟨by rfl, rfl⟩) (by assumption) ?rest11zY
    try simp only [Act.put, List.getElem_toArray, List.getElem_cons_succ, List.getElem_cons_zero, List.setIfInBounds_toArray, List.set_cons_zero, List.set_cons_succ]
    refine wpAnyH_take (i := 12) (v := undef) rfl (by kernel_rfl) (by kernel_rfl) (by kernel_rfl) (fun _ _ _ h => h) (Or.inr ⟨by rfl, rfl⟩) (by assumption) ?rest12zY
    try simp only [Act.put, List.getElem_toArray, List.getElem_cons_succ, List.getElem_cons_zero, List.setIfInBounds_toArray, List.set_cons_zero, List.set_cons_succ]
    refine wpAnyH_take (i := 13) (v := undef) rfl (by kernel_rfl) (by kernel_rfl) (by kernel_rfl) (fun _ _ _ h => h) (Or.inr ⟨by rfl, rfl⟩) (by assumption) ?rest13zY
    try simp only [Act.put, List.getElem_toArray, List.getElem_cons_succ, List.getElem_cons_zero, List.setIfInBounds_toArray, List.set_cons_zero, List.set_cons_succ]
    refine wpAnyH_take (i := 14) (v := undef) rfl (by kernel_rfl) (by kernel_rfl) (by kernel_rfl) (fun _ _ _ h => h) (Or.inr ⟨by rfl, rfl⟩) (by assumption) ?rest14zY
    try simp only [Act.put, List.getElem_toArray, List.getElem_cons_succ, List.getElem_cons_zero, List.setIfInBounds_toArray, List.set_cons_zero, List.set_cons_succ]
    refine wpAnyH_take (i := 15) (v := undef) rfl (by kernel_rfl) (by kernel_rfl) (by kernel_rfl) (fun _ _ _ h => h) (Or.inr ⟨by rfl, rfl⟩) (by assumption) ?rest15zY
    try simp only [Act.put, List.getElem_toArray, List.getElem_cons_succ, List.getElem_cons_zero, List.setIfInBounds_toArray, List.set_cons_zero, List.set_cons_succ]
    refine wpAnyH_take (i := 16) (v := ?v16zY) rfl (by kernel_rfl) (by kernel_rfl) (by kernel_rfl) (fun _ _ _ h => h) (Or.inl ⟨by rfl, ?hy16zY⟩) (by assumption) ?rest16zY
    case hy16zY => intro w hSw; (try dsimp only at hSw); first | (go_simp; done) | (go_simp; with_reducible rfl)
    try simp only [Act.put, List.getElem_toArray, List.getElem_cons_succ, List.getElem_cons_zero, List.setIfInBounds_toArray, List.set_cons_zero, List.set_cons_succ]
    refine wpAnyH_take (i := 17) (v := ?v17zY) rfl (by kernel_rfl) (by kernel_rfl) (by kernel_rfl) (fun _ _ _ h => h) (Or.inl ⟨by rfl, ?hy17zY⟩) (by assumption) ?rest17zY
    case hy17zY => intro w hSw; (try dsimp only at hSw); first | (go_simp; done) | (go_simp; with_reducible rfl)
    try simp only [Act.put, List.getElem_toArray, List.getElem_cons_succ, List.getElem_cons_zero, List.setIfInBounds_toArray, List.set_cons_zero, List.set_cons_succ]
    refine wpAnyH_done (by kernel_rfl) ?_ _
    all_goals
      have HS9 := Lib.hid hHeld.2.2.2.2.2
      clear hHeld
      go_wp2_with fail
      go_ret
      have hz9 := HZ9.out
      subst hz9
      exact ⟨HQ.out, Below.down HB.out HS9.out.below HB.out.size⟩
  | false =>
    have HM := Lib.hid hm
    have HQ : Hid (Q = c.gs.any (cgB xf p false)) := Lib.hid (by rw [HX.out, hm]; rfl)
    clear hm
    refine wp_region_held_drew (S := (fun w' => (w'.cell? ⟨y, 0, none⟩ = some (.int .i64 c.fr) ∧ w'.cell? ⟨y, 1, none⟩ = some (.slice (some ⟨b, o, none⟩) m cap) ∧ w'.cell? ⟨y, 2, none⟩ = some vd ∧ w'.cell? ⟨y, 3, none⟩ = some (.int .i64 c.mj) ∧ w'.cell? ⟨y, 4, none⟩ = some vw ∧ w'.cell? ⟨y, 5, none⟩ = some vg ∧ w'.cell? ⟨y, 6, none⟩ = some (.int .i64 c.se) ∧ w'.cell? ⟨y, 7, none⟩ = some (.int .i64 c.qu) ∧ w'.cell? ⟨y, 8, none⟩ = some (.int .i64 c.qt)) ∧ w'.cell? ⟨y1, 0, none⟩ = some (.int .i64 (p : Int)) ∧ w'.cell? ⟨y2, 0, none⟩ = some (.func (.func 29) #[] #[]) ∧ w'.cell? ⟨z, 0, none⟩ = some (.int .i64 xf) ∧ w'.cell? ⟨b, o + p * 5 + 2, none⟩ = some (.slice A2 m2 c2) ∧ RcS w1 c (.slice (some ⟨b, o, none⟩) m cap) vd vw vg y y1 y2 z (p : Int) (.func (.func 29) #[] #[]) xf xo xl w')) (by kernel_rfl) ?_ (fun hHeld => ?_)
    · try dsimp only
      (go_split_ands; refine RcS.all hb1 hrow ?_; (first | assumption | (exact RcS.drew (by assumption)) | (exact RcS.next (by assumption) (by assumption))))
    refine wpAnyH_take (i := 0) (v := ?v0zN) rfl (by kernel_rfl) (by kernel_rfl) (by kernel_rfl) (fun _ _ _ h => h) (Or.inl ⟨by rfl, ?hy0zN⟩) (by assumption) ?rest0zN
    case hy0zN => intro w hSw; (try dsimp only at hSw); first | (go_simp; done) | (go_simp; with_reducible rfl)
    try simp only [Act.put, List.getElem_toArray, List.getElem_cons_succ, List.getElem_cons_zero, List.setIfInBounds_toArray, List.set_cons_zero, List.set_cons_succ]
    refine wpAnyH_take (i := 1) (v := ?v1zN) rfl (by kernel_rfl) (by kernel_rfl) (by kernel_rfl) (fun _ _ _ h => h) (Or.inl ⟨by rfl, ?hy1zN⟩) (by assumption) ?rest1zN
    case hy1zN => intro w hSw; (try dsimp only at hSw); first | (go_simp; done) | (go_simp; with_reducible rfl)
    try simp only [Act.put, List.getElem_toArray, List.getElem_cons_succ, List.getElem_cons_zero, List.setIfInBounds_toArray, List.set_cons_zero, List.set_cons_succ]
    refine wpAnyH_take (i := 2) (v := ?v2zN) rfl (by kernel_rfl) (by kernel_rfl) (by kernel_rfl) (fun _ _ _ h => h) (Or.inl ⟨by rfl, ?hy2zN⟩) (by assumption) ?rest2zN
    case hy2zN => intro w hSw; (try dsimp only at hSw); first | (go_simp; done) | (go_simp; with_reducible rfl)
    try simp only [Act.put, List.getElem_toArray, List.getElem_cons_succ, List.getElem_cons_zero, List.setIfInBounds_toArray, List.set_cons_zero, List.set_cons_succ]
    refine wpAnyH_take (i := 3) (v := ?v3zN) rfl (by kernel_rfl) (by kernel_rfl) (by kernel_rfl) (fun _ _ _ h => h) (Or.inl ⟨by rfl, ?hy3zN⟩) (by assumption) ?rest3zN
    case hy3zN => intro w hSw; (try dsimp only at hSw); first | (go_simp; done) | (go_simp; with_reducible rfl)
    try simp only [Act.put, List.getElem_toArray, List.getElem_cons_succ, List.getElem_cons_zero, List.setIfInBounds_toArray, List.set_cons_zero, List.set_cons_succ]
    refine wpAnyH_take (i := 4) (v := ?v4zN) rfl (by kernel_rfl) (by kernel_rfl) (by kernel_rfl) (fun _ _ _ h => h) (Or.inl ⟨by rfl, ?hy4zN⟩) (by assumption) ?rest4zN
    case hy4zN => intro w hSw; (try dsimp only at hSw); first | (go_simp; done) | (go_simp; with_reducible rfl)
    try simp only [Act.put, List.getElem_toArray, List.getElem_cons_succ, List.getElem_cons_zero, List.setIfInBounds_toArray, List.set_cons_zero, List.set_cons_succ]
    refine wpAnyH_take (i := 5) (v := ?v5zN) rfl (by kernel_rfl) (by kernel_rfl) (by kernel_rfl) (fun _ _ _ h => h) (Or.inl ⟨by rfl, ?hy5zN⟩) (by assumption) ?rest5zN
    case hy5zN => intro w hSw; (try dsimp only at hSw); first | (go_simp; done) | (go_simp; with_reducible rfl)
    try simp only [Act.put, List.getElem_toArray, List.getElem_cons_succ, List.getElem_cons_zero, List.setIfInBounds_toArray, List.set_cons_zero, List.set_cons_succ]
    refine wpAnyH_take (i := 6) (v := ?v6zN) rfl (by kernel_rfl) (by kernel_rfl) (by kernel_rfl) (fun _ _ _ h => h) (Or.inl ⟨by rfl, ?hy6zN⟩) (by assumption) ?rest6zN
    case hy6zN => intro w hSw; (try dsimp only at hSw); first | (go_simp; done) | (go_simp; with_reducible rfl)
    try simp only [Act.put, List.getElem_toArray, List.getElem_cons_succ, List.getElem_cons_zero, List.setIfInBounds_toArray, List.set_cons_zero, List.set_cons_succ]
    refine wpAnyH_take (i := 7) (v := ?v7zN) rfl (by kernel_rfl) (by kernel_rfl) (by kernel_rfl) (fun _ _ _ h => h) (Or.inl ⟨by rfl, ?hy7zN⟩) (by assumption) ?rest7zN
    case hy7zN => intro w hSw; (try dsimp only at hSw); first | (go_simp; done) | (go_simp; with_reducible rfl)
    try simp only [Act.put, List.getElem_toArray, List.getElem_cons_succ, List.getElem_cons_zero, List.setIfInBounds_toArray, List.set_cons_zero, List.set_cons_succ]
    refine wpAnyH_ready (rs := [8]) (by kernel_rfl) (by simp) ?_
    refine AllReadyH.cons rfl (fun K hK => ?_) AllReadyH.nil
    go_simp
    refine (HCT.out _ hHeld.2.2.2.2.2.below).mono ?_
    rintro e w5 ⟨rfl, hw5⟩
    subst hw5
    rw [HM.out]
    go_wp2_with fail
    refine hK.out _ _ ?_ (fun hHeld2 => ?_)
    · try dsimp only
      (go_split_ands; refine RcS.all hb1 hrow ?_; (first | assumption | (exact RcS.drew (by assumption)) | (exact RcS.next (by assumption) (by assumption))))
    clear hK K hHeld
    have hHeld := hHeld2; clear hHeld2
    try simp only [Act.put, List.getElem_toArray, List.getElem_cons_succ, List.getElem_cons_zero, List.setIfInBounds_toArray, List.set_cons_zero, List.set_cons_succ]
    refine wpAnyH_take (i := 9) (v := ?v9zN) rfl (by kernel_rfl) (by kernel_rfl) (by kernel_rfl) (fun _ _ _ h => h) (Or.inl ⟨by rfl, ?hy9zN⟩) (by assumption) ?rest9zN
    case hy9zN => intro w hSw; (try dsimp only at hSw); first | (go_simp; done) | (go_simp; with_reducible rfl)
    try simp only [Act.put, List.getElem_toArray, List.getElem_cons_succ, List.getElem_cons_zero, List.setIfInBounds_toArray, List.set_cons_zero, List.set_cons_succ]
    refine wpAnyH_take (i := 10) (v := ?v10zN) rfl (by kernel_rfl) (by kernel_rfl) (by kernel_rfl) (fun _ _ _ h => h) (Or.inl ⟨by rfl, ?hy10zN⟩) (by assumption) ?rest10zN
    case hy10zN => intro w hSw; (try dsimp only at hSw); first | (go_simp; done) | (go_simp; with_reducible rfl)
    try simp only [Act.put, List.getElem_toArray, List.getElem_cons_succ, List.getElem_cons_zero, List.setIfInBounds_toArray, List.set_cons_zero, List.set_cons_succ]
    refine wpAnyH_take (i := 11) (v := ?v11zN) rfl (by kernel_rfl) (by kernel_rfl) (by kernel_rfl) (fun _ _ _ h => h) (Or.inl ⟨by rfl, ?hy11zN⟩) (by assumption) ?rest11zN
    case hy11zN => intro w hSw; (try dsimp only at hSw); first | (go_simp; done) | (go_simp; with_reducible rfl)
    try simp only [Act.put, List.getElem_toArray, List.getElem_cons_succ, List.getElem_cons_zero, List.setIfInBounds_toArray, List.set_cons_zero, List.set_cons_succ]
    refine wpAnyH_take (i := 12) (v := ?v12zN) rfl (by kernel_rfl) (by kernel_rfl) (by kernel_rfl) (fun _ _ _ h => h) (Or.inl ⟨by rfl, ?hy12zN⟩) (by assumption) ?rest12zN
    case hy12zN => intro w hSw; (try dsimp only at hSw); first | (go_simp; done) | (go_simp; with_reducible rfl)
    try simp only [Act.put, List.getElem_toArray, List.getElem_cons_succ, List.getElem_cons_zero, List.setIfInBounds_toArray, List.set_cons_zero, List.set_cons_succ]
    refine wpAnyH_take (i := 13) (v := ?v13zN) rfl (by kernel_rfl) (by kernel_rfl) (by kernel_rfl) (fun _ _ _ h => h) (Or.inl ⟨by rfl, ?hy13zN⟩) (by assumption) ?rest13zN
    case hy13zN => intro w hSw; (try dsimp only at hSw); first | (go_simp; done) | (go_simp; with_reducible rfl)
    try simp only [Act.put, List.getElem_toArray, List.getElem_cons_succ, List.getElem_cons_zero, List.setIfInBounds_toArray, List.set_cons_zero, List.set_cons_succ]
    refine wpAnyH_take (i := 14) (v := ?v14zN) rfl (by kernel_rfl) (by kernel_rfl) (by kernel_rfl) (fun _ _ _ h => h) (Or.inl ⟨by rfl, ?hy14zN⟩) (by assumption) ?rest14zN
    case hy14zN => intro w hSw; (try dsimp only at hSw); first | (go_simp; done) | (go_simp; with_reducible rfl)
    try simp only [Act.put, List.getElem_toArray, List.getElem_cons_succ, List.getElem_cons_zero, List.setIfInBounds_toArray, List.set_cons_zero, List.set_cons_succ]
    refine wpAnyH_ready (rs := [15]) (by kernel_rfl) (by simp) ?_
    refine AllReadyH.cons rfl (fun K hK => ?_) AllReadyH.nil
    go_simp
    refine (granted_r (HCF.out _ hHeld.2.2.2.2.2.below) _ _).mono ?_
    rintro e w6 ⟨rfl, hb6⟩
    go_wp2_with fail
    refine hK.out _ _ ?_ (fun hHeld2 => ?_)
    · try dsimp only
      (go_split_ands; refine RcS.all hb1 hrow ?_; (first | assumption | (exact RcS.drew (by assumption)) | (exact RcS.next (by assumption) (by assumption))))
    clear hK K hHeld
    have hHeld := hHeld2; clear hHeld2
    try simp only [Act.put, List.getElem_toArray, List.getElem_cons_succ, List.getElem_cons_zero, List.setIfInBounds_toArray, List.set_cons_zero, List.set_cons_succ]
    refine wpAnyH_take (i := 16) (v := ?v16zN) rfl (by kernel_rfl) (by kernel_rfl) (by kernel_rfl) (fun _ _ _ h => h) (Or.inl ⟨by rfl, ?hy16zN⟩) (by assumption) ?rest16zN
    case hy16zN => intro w hSw; (try dsimp only at hSw); first | (go_simp; done) | (go_simp; with_reducible rfl)
    try simp only [Act.put, List.getElem_toArray, List.getElem_cons_succ, List.getElem_cons_zero, List.setIfInBounds_toArray, List.set_cons_zero, List.set_cons_succ]
    refine wpAnyH_take (i := 17) (v := ?v17zN) rfl (by kernel_rfl) (by kernel_rfl) (by kernel_rfl) (fun _ _ _ h => h) (Or.inl ⟨by rfl, ?hy17zN⟩) (by assumption) ?rest17zN
    case hy17zN => intro w hSw; (try dsimp only at hSw); first | (go_simp; done) | (go_simp; with_reducible rfl)
    try simp only [Act.put, List.getElem_toArray, List.getElem_cons_succ, List.getElem_cons_zero, List.setIfInBounds_toArray, List.set_cons_zero, List.set_cons_succ]
    refine wpAnyH_done (by kernel_rfl) ?_ _
    all_goals
      have HS9 := Lib.hid hHeld.2.2.2.2.2
      clear hHeld
      go_wp2_with fail
      go_ret
      have hz9 := HZ9.out
      subst hz9
      exact ⟨by rw [HQ.out]; rfl, Below.down HB.out HS9.out.below HB.out.size⟩


set_option maxHeartbeats 1000000 in
theorem reaches_r {w : World} {c : Cf} {vp vd vw vg : Value} (h : CfAt w vp vd vw vg c) (part at_ n : Int) :
    Calls Try.prog 28 #[.agg #[.int .i64 c.fr, vp, vd, .int .i64 c.mj, vw, vg, .int .i64 c.se, .int .i64 c.qu, .int .i64 c.qt], .int .i64 part, .int .i64 at_, .int .i64 n, .func (.func 29) #[] #[]] w fun e w' => e = .returned (.bool (alB c part at_ n false)) ∧ Below w.heap.size w w' := by
  have b1 : Below w.heap.size w (w.alloc (.cells #[.int .i64 c.fr, vp, vd, .int .i64 c.mj, vw, vg, .int .i64 c.se, .int .i64 c.qu, .int .i64 c.qt] 27)) := (Below.refl _ _).alloc (Nat.le_refl _) _
  have b2 := b1.alloc b1.size (.cells #[.int .i64 part] 3)
  have b3 := b2.alloc b2.size (.cells #[.func (.func 29) #[] #[]] 61)
  have k0 : Blk (((w.alloc (.cells #[.int .i64 c.fr, vp, vd, .int .i64 c.mj, vw, vg, .int .i64 c.se, .int .i64 c.qu, .int .i64 c.qt] 27)).alloc (.cells #[.int .i64 part] 3)).alloc (.cells #[.func (.func 29) #[] #[]] 61)) w.heap.size 27 (cfc c vp vd vw vg) := ((Blk.new w _ (cfc c vp vd vw vg)).alloc _).alloc _
  have k1 : Blk (((w.alloc (.cells #[.int .i64 c.fr, vp, vd, .int .i64 c.mj, vw, vg, .int .i64 c.se, .int .i64 c.qu, .int .i64 c.qt] 27)).alloc (.cells #[.int .i64 part] 3)).alloc (.cells #[.func (.func 29) #[] #[]] 61)) (w.heap.size + 1) 3 [.int .i64 part] := by
    have := (Blk.new (w.alloc (.cells #[.int .i64 c.fr, vp, vd, .int .i64 c.mj, vw, vg, .int .i64 c.se, .int .i64 c.qu, .int .i64 c.qt] 27)) 3 [.int .i64 part]).alloc (.cells #[.func (.func 29) #[] #[]] 61)
    simpa using this
  have k2 : Blk (((w.alloc (.cells #[.int .i64 c.fr, vp, vd, .int .i64 c.mj, vw, vg, .int .i64 c.se, .int .i64 c.qu, .int .i64 c.qt] 27)).alloc (.cells #[.int .i64 part] 3)).alloc (.cells #[.func (.func 29) #[] #[]] 61)) (w.heap.size + 1 + 1) 61 [.func (.func 29) #[] #[]] := by
    have := Blk.new ((w.alloc (.cells #[.int .i64 c.fr, vp, vd, .int .i64 c.mj, vw, vg, .int .i64 c.se, .int .i64 c.qu, .int .i64 c.qt] 27)).alloc (.cells #[.int .i64 part] 3)) 61 [.func (.func 29) #[] #[]]
    simpa using this
  have HB := Lib.hid b3
  have H3 := Lib.hid (h.below b3)
  have K0 := Lib.hid k0; have K1 := Lib.hid k1; have K2 := Lib.hid k2
  obtain ⟨f0, f1, f2, f3, f4, f5, f6, f7, f8⟩ := cf_at k0
  have g1 := k1.cell 0
  simp only [List.getElem?_cons_zero] at g1
  have HX : Hid (alB c part at_ n false = (cfMay c && (inP c.ps.length part && (fitB at_ n (c.fr * 64) && (spl at_.toNat n.toNat).all (fun x => rcB c part x.1 false))))) := Lib.hid rfl
  clear h b1 b2 b3 k0 k1 k2
  generalize alB c part at_ n false = Q at *
  have HM := Lib.hid (fun (W : World) (hW : CfAt W vp vd vw vg c) => cmay_any hW)
  cases hm : cfMay c with
  | false =>
    have e : Q = false := by rw [HX.out, hm]; rfl
    subst e
    have HM3 := Lib.hid (HM.out _ H3.out)
    rw [hm] at HM3
    clear hm
    go_enter Try.func28, Try.ntmps28
    go_wp2_with fail
    refine HM3.out.mono ?_
    rintro e w4 ⟨rfl, b4⟩
    go_wp2_with fail
    go_ret
    exact ⟨rfl, Below.down HB.out b4 HB.out.size⟩
  | true =>
    have hF : 1 ≤ c.fr ∧ c.fr ≤ 64 := by
      unfold cfMay at hm
      rw [Bool.and_eq_true] at hm
      exact btw_iff.1 hm.1
    have hU : unB c = true := by
      unfold cfMay at hm
      simp only [Bool.and_eq_true] at hm
      exact hm.2.2.2.1
    obtain ⟨F, hFe⟩ : ∃ F : Nat, c.fr = F := ⟨c.fr.toNat, by omega⟩
    obtain ⟨F1, F2⟩ := hF
    rw [hFe] at F1 F2 f0
    have HFe := Lib.hid hFe
    have HU := Lib.hid hU
    have HM3 := Lib.hid (HM.out _ H3.out)
    rw [hm] at HM3
    have HPT := Lib.hid (fun (W : World) (hW : CfAt W vp vd vw vg c) => haspart_any hW part)
    have HX2 : Hid (Q = (inP c.ps.length part && (fitB at_ n (F * 64) && (spl at_.toNat n.toNat).all (fun x => rcB c part x.1 false)))) := Lib.hid (by rw [HX.out, hm, hFe]; rfl)
    clear hm HX hU
    rw [hFe] at HM3 HPT HB H3 K0 K1 K2 f1 f2 f3 f4 f5 f6 f7 f8 g1 ⊢
    clear hFe
    cases hi : inP c.ps.length part with
    | false =>
      have e : Q = false := by rw [HX2.out, hi]; rfl
      subst e
      rw [hi] at HPT
      clear hi
      go_enter Try.func28, Try.ntmps28
      go_wp2_with fail
      refine HM3.out.mono ?_
      rintro e w4 ⟨rfl, b4⟩
      have H4 := Lib.hid (H3.out.below b4)
      have B4 := Lib.hid (Below.down HB.out b4 HB.out.size)
      have k0 := K0.out.below b4 K0.out.lt
      have k1 := K1.out.below b4 K1.out.lt
      obtain ⟨f0, f1, f2, f3, f4, f5, f6, f7, f8⟩ := cf_at k0
      have g1 := k1.cell 0
      simp only [List.getElem?_cons_zero] at g1
      rw [HFe.out] at f0
      clear k0 k1 b4
      go_wp2_with fail
      refine (HPT.out _ H4.out).mono ?_
      rintro e w5 ⟨rfl, b5⟩
      go_wp2_with fail
      go_ret
      exact ⟨rfl, Below.down B4.out b5 B4.out.size⟩
    | true =>
      rw [hi] at HPT
      obtain ⟨p, rfl, hp⟩ := (inP_iff _ _).1 hi
      have HX3 : Hid (Q = (fitB at_ n (F * 64) && (spl at_.toNat n.toNat).all (fun x => rcB c p x.1 false))) := Lib.hid (by rw [HX2.out, hi]; rfl)
      have HP9 := Lib.hid hp
      have HMY := Lib.hid (fun (W : World) => may_any at_ n (F * 64) W (by omega))
      clear hi HX2 hp
      go_enter Try.func28, Try.ntmps28
      go_wp2_with fail
      refine HM3.out.mono ?_
      rintro e w4 ⟨rfl, b4⟩
      have H4 := Lib.hid (H3.out.below b4)
      have B4 := Lib.hid (Below.down HB.out b4 HB.out.size)
      have J0 := Lib.hid (K0.out.below b4 K0.out.lt)
      have J1 := Lib.hid (K1.out.below b4 K1.out.lt)
      have J2 := Lib.hid (K2.out.below b4 K2.out.lt)
      obtain ⟨f0, f1, f2, f3, f4, f5, f6, f7, f8⟩ := cf_at J0.out
      have g1 := J1.out.cell 0
      simp only [List.getElem?_cons_zero] at g1
      rw [HFe.out] at f0
      clear b4
      go_wp2_with fail
      refine (HPT.out _ H4.out).mono ?_
      rintro e w5 ⟨rfl, b5⟩
      have H5 := Lib.hid (H4.out.below b5)
      have B5 := Lib.hid (Below.down B4.out b5 B4.out.size)
      have I0 := Lib.hid (J0.out.below b5 J0.out.lt)
      have I1 := Lib.hid (J1.out.below b5 J1.out.lt)
      have I2 := Lib.hid (J2.out.below b5 J2.out.lt)
      have f0 := I0.out.cell 0
      have e0 : (cfc c vp vd vw vg)[0]? = some (.int .i64 (F : Int)) := by rw [← HFe.out]; rfl
      rw [e0] at f0
      clear b5 e0 f1 f2 f3 f4 f5 f6 f7 f8 g1 HM3 HPT
      go_wp2_with fail
      refine (HMY.out _).mono ?_
      rintro e w6 ⟨rfl, rfl⟩
      cases hf : fitB at_ n (F * 64) with
      | false =>
        have e : Q = false := by rw [HX3.out, hf]; rfl
        subst e
        clear hf
        go_wp2_with fail
        go_ret
        exact ⟨rfl, B5.out⟩
      | true =>
        have hf2 := of_decide_eq_true hf
        obtain ⟨r0, r1, r2, r3⟩ := hf2
        obtain ⟨a, rfl⟩ := Int.eq_ofNat_of_zero_le r0
        obtain ⟨m, rfl⟩ := Int.eq_ofNat_of_zero_le r1
        have HX4 : Hid (Q = (spl a m).all (fun x => rcB c p x.1 false)) := Lib.hid (by rw [HX3.out, hf, Bool.true_and, Int.toNat_natCast, Int.toNat_natCast])
        have HSP := Lib.hid (fun (W : World) => split_yes (a : Int) (m : Int) W (by omega) (by omega) (by omega))
        clear hf HX3 HMY
        go_wp2_with fail
        refine (HSP.out _).mono ?_
        rintro e w7 ⟨v, rfl, ho, b7⟩
        simp only [Int.toNat_natCast] at ho
        have H7 := H5.out.below b7
        have B7 := Lib.hid (Below.down B5.out b7 B5.out.size)
        have i0 := I0.out.below b7 I0.out.lt
        have i1 := I1.out.below b7 I1.out.lt
        have i2 := I2.out.below b7 I2.out.lt
        have hll := spl_len m a
        obtain ⟨A, cap, rfl, hcap, hxl, hA⟩ := Sl.own ho
        obtain ⟨b, o, hbo⟩ : ∃ b o, 0 < (spl a m).length → A = some ⟨b, o, none⟩ ∧ b < w7.heap.size ∧ ∀ j u, (flat (spl a m))[j]? = some u → w7.cell? ⟨b, o + j, none⟩ = some u := by
          by_cases h0 : 0 < (spl a m).length
          · obtain ⟨b, o, q1, q2, q3⟩ := hA h0
            exact ⟨b, o, fun _ => ⟨q1, q2, q3⟩⟩
          · exact ⟨0, 0, fun h => absurd h h0⟩
        have hE := each_Piece A b o (spl a m).length cap w.heap.size (w.heap.size + 1) (w.heap.size + 1 + 1) (fun i => .int .i64 (((spl a m).getD i (0, 0, 0)).1 : Nat)) (fun i => .int .i64 (((spl a m).getD i (0, 0, 0)).2.1 : Nat)) (fun i => .int .i64 (((spl a m).getD i (0, 0, 0)).2.2 : Nat))
          (fun i => rcB c p (((spl a m).getD i (0, 0, 0)).1 : Nat) false) nos (fun _ W => Below w7.heap.size w7 W) w7 (by unfold maxLen; omega) (fun h0 => (hbo h0).1) nos_lt
          (fun i W W' hI hW => Below.down hI hW hI.size)
          (fun i W hi hI => by
            obtain ⟨_, q2, q3⟩ := hbo (by omega)
            obtain ⟨p0, p1, p2⟩ := flat_get (spl a m) i hi
            have g := fun x => hI.cell (p := ⟨b, x, none⟩) q2
            have hgd : (spl a m).getD i (0, 0, 0) = (spl a m)[i] := by simp [List.getD, List.getElem?_eq_getElem hi]
            rw [hgd]
            refine ⟨(g _).trans (q3 _ _ p0), ?_, ?_⟩
            · have := (g _).trans (q3 _ _ p1); rw [← Nat.add_assoc] at this; exact this
            · have := (g _).trans (q3 _ _ p2); rw [← Nat.add_assoc] at this; exact this)
          (fun i W hi _ hI => by
            refine (rc1_r (H7.below hI) HU.out p HP9.out _ _ _ _ _ _ (i0.below hI i0.lt) (i1.below hI i1.lt) (i2.below hI i2.lt)).mono ?_
            rintro e w' ⟨rfl, hb⟩
            exact ⟨rfl, Below.down hI hb hI.size, Fo.of hb _⟩)
          (Below.refl _ _)
        rw [all_range (spl a m) (0, 0, 0) (fun x => rcB c p x.1 false), ← HX4.out] at hE
        have HE := Lib.hid hE
        have hlm : (spl a m).length ≤ 9223372036854775807 := by omega
        clear hE hbo hA hxl ho H7 i0 i1 i2 b7
        generalize (spl a m).length = L at *
        go_wp2_with fail
        refine HE.out.mono ?_
        rintro e w8 ⟨rfl, -, hf8⟩
        have HB8 := Lib.hid (Below.down B7.out hf8.nos B7.out.size)
        clear hf8
        go_wp2_with fail
        go_ret
        exact ⟨rfl, HB8.out⟩

theorem creads_any {w : World} {c : Cf} {vp vd vw vg : Value} (h : CfAt w vp vd vw vg c) (part at_ n : Int) :
    Calls Try.prog 11 #[.agg #[.int .i64 c.fr, vp, vd, .int .i64 c.mj, vw, vg, .int .i64 c.se, .int .i64 c.qu, .int .i64 c.qt], .int .i64 part, .int .i64 at_, .int .i64 n] w fun e w' => e = .returned (.bool (alB c part at_ n false)) ∧ Below w.heap.size w w' := by
  obtain ⟨hb, hB⟩ := cf_box w c vp vd vw vg
  have HC := Lib.hid (reaches_r (h.below hB) part at_ n)
  obtain ⟨k0, k1, k2, k3, k4, k5, k6, k7, k8⟩ := cf_at hb
  have HB := Lib.hid hB
  clear hb hB h
  go_enter Try.func11, Try.ntmps11
  go_wp2_with fail
  refine HC.out.mono ?_
  rintro e w1 ⟨rfl, b1⟩
  go_wp2_with fail
  go_ret
  exact ⟨rfl, Below.down HB.out b1 HB.out.size⟩


set_option maxHeartbeats 2000000 in
theorem rc1_w {w : World} {c : Cf} {vp vd vw vg : Value} (h : CfAt w vp vd vw vg c) (hu : unB c = true) (p : Nat) (hp : p < c.ps.length) (xf xo xl : Int) (y y1 y2 : Nat) (hy : Blk w y 27 (cfc c vp vd vw vg)) (hy1 : Blk w y1 3 [.int .i64 (p : Int)]) (hy2 : Blk w y2 61 [.func (.func 31) #[] #[]]) :
    Calls Try.prog 52 #[.agg #[.int .i64 xf, .int .i64 xo, .int .i64 xl], .pointer (some ⟨y, 0, none⟩), .pointer (some ⟨y1, 0, none⟩), .pointer (some ⟨y2, 0, none⟩)] w fun e w' => e = .returned (.bool (rcB c p xf true)) ∧ Below w.heap.size w w' := by
  have hB : Below w.heap.size w (w.alloc (.cells #[.int .i64 xf, .int .i64 xo, .int .i64 xl] 75)) := (Below.refl _ _).alloc (Nat.le_refl _) _
  have h1 := h.below hB
  have hz := h.pz.1
  have hzf := h.pz.2 p
  obtain ⟨A, cap, b, o, sv, rfl, hA, hr⟩ := h1.ps.rows
  obtain ⟨rfl, hb1⟩ := hA (by omega)
  obtain ⟨⟨-, -, hrow, -, -⟩, hsl⟩ := hr p hp
  obtain ⟨A2, c2, e2, -⟩ := hsl.below (Below.refl _ _)
  rw [e2] at hrow hsl
  have hown : rcB c p xf true = (memI (c.ps.getD p paD).fr xf || c.gs.any (cgB xf p true)) := by
    unfold memI
    rw [own_part hu p xf hp]; rfl
  have hS : RcS (w.alloc (.cells #[.int .i64 xf, .int .i64 xo, .int .i64 xl] 75)) c (.slice (some ⟨b, o, none⟩) c.ps.length cap) vd vw vg y y1 y2 w.heap.size (p : Int) (.func (.func 31) #[] #[]) xf xo xl (w.alloc (.cells #[.int .i64 xf, .int .i64 xo, .int .i64 xl] 75)) :=
    ⟨hy.alloc _, hy1.alloc _, hy2.alloc _, Blk.new _ _ _, Below.refl _ _⟩
  have HCT := Lib.hid (fun (W : World) (hW : Below (w.alloc (.cells #[.int .i64 xf, .int .i64 xo, .int .i64 xl] 75)).heap.size (w.alloc (.cells #[.int .i64 xf, .int .i64 xo, .int .i64 xl] 75)) W) => contains_any _ _ xf W (hsl.below hW) (by unfold maxLen; omega))
  have HCF := Lib.hid (fun (W : World) (hW : Below (w.alloc (.cells #[.int .i64 xf, .int .i64 xo, .int .i64 xl] 75)).heap.size (w.alloc (.cells #[.int .i64 xf, .int .i64 xo, .int .i64 xl] 75)) W) => h1.below hW)
  have HB := Lib.hid hB; have HX := Lib.hid hown
  clear h h1 hA hr hsl hB hu hy hy1 hy2 e2 hown
  generalize rcB c p xf true = Q at *
  generalize (c.ps.getD p paD).fr = fr at *
  generalize fr.length = m2 at *
  generalize c.ps.length = m at *
  have hpi : (p : Int) < (m : Int) := by omega
  have hzf2 : m2 ≤ 9223372036854775807 := by omega
  clear hzf
  go_enter Try.func52, Try.ntmps52
  go_wp2_with fail
  generalize w.alloc (.cells #[.int .i64 xf, .int .i64 xo, .int .i64 xl] 75) = w1 at *
  generalize hz9 : w.heap.size = z at *
  have HZ9 := Lib.hid hz9
  obtain ⟨⟨k0, k1, k2, k3, k4, k5, k6, k7, k8⟩, c0, c1, c2', c3, hS'⟩ := hS.all hb1 hrow
  clear hz9
  cases hm : memI fr xf with
  | true =>
    have HM := Lib.hid hm
    have HQ : Hid (Ending.returned (.bool true) = Ending.returned (.bool Q)) := Lib.hid (by rw [HX.out, hm]; rfl)
    clear hm
    refine wp_region_held_drew (S := (fun w' => (w'.cell? ⟨y, 0, none⟩ = some (.int .i64 c.fr) ∧ w'.cell? ⟨y, 1, none⟩ = some (.slice (some ⟨b, o, none⟩) m cap) ∧ w'.cell? ⟨y, 2, none⟩ = some vd ∧ w'.cell? ⟨y, 3, none⟩ = some (.int .i64 c.mj) ∧ w'.cell? ⟨y, 4, none⟩ = some vw ∧ w'.cell? ⟨y, 5, none⟩ = some vg ∧ w'.cell? ⟨y, 6, none⟩ = some (.int .i64 c.se) ∧ w'.cell? ⟨y, 7, none⟩ = some (.int .i64 c.qu) ∧ w'.cell? ⟨y, 8, none⟩ = some (.int .i64 c.qt)) ∧ w'.cell? ⟨y1, 0, none⟩ = some (.int .i64 (p : Int)) ∧ w'.cell? ⟨y2, 0, none⟩ = some (.func (.func 31) #[] #[]) ∧ w'.cell? ⟨z, 0, none⟩ = some (.int .i64 xf) ∧ w'.cell? ⟨b, o + p * 5 + 2, none⟩ = some (.slice A2 m2 c2) ∧ RcS w1 c (.slice (some ⟨b, o, none⟩) m cap) vd vw vg y y1 y2 z (p : Int) (.func (.func 31) #[] #[]) xf xo xl w')) (by kernel_rfl) ?_ (fun hHeld => ?_)
    · try dsimp only
      (go_split_ands; refine RcS.all hb1 hrow ?_; (first | assumption | (exact RcS.drew (by assumption)) | (exact RcS.next (by assumption) (by assumption))))
    refine wpAnyH_take (i := 0) (v := ?v0zY) rfl (by kernel_rfl) (by kernel_rfl) (by kernel_rfl) (fun _ _ _ h => h) (Or.inl ⟨by rfl, ?hy0zY⟩) (by assumption) ?rest0zY
    case hy0zY => intro w hSw; (try dsimp only at hSw); first | (go_simp; done) | (go_simp; with_reducible rfl)
    try simp only [Act.put, List.getElem_toArray, List.getElem_cons_succ, List.getElem_cons_zero, List.setIfInBounds_toArray, List.set_cons_zero, List.set_cons_succ]
    refine wpAnyH_take (i := 1) (v := ?v1zY) rfl (by kernel_rfl) (by kernel_rfl) (by kernel_rfl) (fun _ _ _ h => h) (Or.inl ⟨by rfl, ?hy1zY⟩) (by assumption) ?rest1zY
    case hy1zY => intro w hSw; (try dsimp only at hSw); first | (go_simp; done) | (go_simp; with_reducible rfl)
    try simp only [Act.put, List.getElem_toArray, List.getElem_cons_succ, List.getElem_cons_zero, List.setIfInBounds_toArray, List.set_cons_zero, List.set_cons_succ]
    refine wpAnyH_take (i := 2) (v := ?v2zY) rfl (by kernel_rfl) (by kernel_rfl) (by kernel_rfl) (fun _ _ _ h => h) (Or.inl ⟨by rfl, ?hy2zY⟩) (by assumption) ?rest2zY
    case hy2zY => intro w hSw; (try dsimp only at hSw); first | (go_simp; done) | (go_simp; with_reducible rfl)
    try simp only [Act.put, List.getElem_toArray, List.getElem_cons_succ, List.getElem_cons_zero, List.setIfInBounds_toArray, List.set_cons_zero, List.set_cons_succ]
    refine wpAnyH_take (i := 3) (v := ?v3zY) rfl (by kernel_rfl) (by kernel_rfl) (by kernel_rfl) (fun _ _ _ h => h) (Or.inl ⟨by rfl, ?hy3zY⟩) (by assumption) ?rest3zY
    case hy3zY => intro w hSw; (try dsimp only at hSw); first | (go_simp; done) | (go_simp; with_reducible rfl)
    try simp only [Act.put, List.getElem_toArray, List.getElem_cons_succ, List.getElem_cons_zero, List.setIfInBounds_toArray, List.set_cons_zero, List.set_cons_succ]
    refine wpAnyH_take (i := 4) (v := ?v4zY) rfl (by kernel_rfl) (by kernel_rfl) (by kernel_rfl) (fun _ _ _ h => h) (Or.inl ⟨by rfl, ?hy4zY⟩) (by assumption) ?rest4zY
    case hy4zY => intro w hSw; (try dsimp only at hSw); first | (go_simp; done) | (go_simp; with_reducible rfl)
    try simp only [Act.put, List.getElem_toArray, List.getElem_cons_succ, List.getElem_cons_zero, List.setIfInBounds_toArray, List.set_cons_zero, List.set_cons_succ]
    refine wpAnyH_take (i := 5) (v := ?v5zY) rfl (by kernel_rfl) (by kernel_rfl) (by kernel_rfl) (fun _ _ _ h => h) (Or.inl ⟨by rfl, ?hy5zY⟩) (by assumption) ?rest5zY
    case hy5zY => intro w hSw; (try dsimp only at hSw); first | (go_simp; done) | (go_simp; with_reducible rfl)
    try simp only [Act.put, List.getElem_toArray, List.getElem_cons_succ, List.getElem_cons_zero, List.setIfInBounds_toArray, List.set_cons_zero, List.set_cons_succ]
    refine wpAnyH_take (i := 6) (v := ?v6zY) rfl (by kernel_rfl) (by kernel_rfl) (by kernel_rfl) (fun _ _ _ h => h) (Or.inl ⟨by rfl, ?hy6zY⟩) (by assumption) ?rest6zY
    case hy6zY => intro w hSw; (try dsimp only at hSw); first | (go_simp; done) | (go_simp; with_reducible rfl)
    try simp only [Act.put, List.getElem_toArray, List.getElem_cons_succ, List.getElem_cons_zero, List.setIfInBounds_toArray, List.set_cons_zero, List.set_cons_succ]
    refine wpAnyH_take (i := 7) (v := ?v7zY) rfl (by kernel_rfl) (by kernel_rfl) (by kernel_rfl) (fun _ _ _ h => h) (Or.inl ⟨by rfl, ?hy7zY⟩) (by assumption) ?rest7zY
    case hy7zY => intro w hSw; (try dsimp only at hSw); first | (go_simp; done) | (go_simp; with_reducible rfl)
    try simp only [Act.put, List.getElem_toArray, List.getElem_cons_succ, List.getElem_cons_zero, List.setIfInBounds_toArray, List.set_cons_zero, List.set_cons_succ]
    refine wpAnyH_ready (rs := [8]) (by kernel_rfl) (by simp) ?_
    refine AllReadyH.cons rfl (fun K hK => ?_) AllReadyH.nil
    go_simp
    refine (HCT.out _ hHeld.2.2.2.2.2.below).mono ?_
    rintro e w5 ⟨rfl, hw5⟩
    subst hw5
    rw [HM.out]
    go_wp2_with fail
    refine hK.out _ _ ?_ (fun hHeld2 => ?_)
    · try dsimp only
      (go_split_ands; refine RcS.all hb1 hrow ?_; (first | assumption | (exact RcS.drew (by assumption)) | (exact RcS.next (by assumption) (by assumption))))
    clear hK K hHeld
    have hHeld := hHeld2; clear hHeld2
    try simp only [Act.put, List.getElem_toArray, List.getElem_cons_succ, List.getElem_cons_zero, List.setIfInBounds_toArray, List.set_cons_zero, List.set_cons_succ]
    refine wpAnyH_take (i := 9) (v := ?v9zY) rfl (by kernel_rfl) (by kernel_rfl) (by kernel_rfl) (fun _ _ _ h => h) (Or.inl ⟨by rfl, ?hy9zY⟩) (by assumption) ?rest9zY
    case hy9zY => intro w hSw; (try dsimp only at hSw); first | (go_simp; done) | (go_simp; with_reducible rfl)
    try simp only [Act.put, List.getElem_toArray, List.getElem_cons_succ, List.getElem_cons_zero, List.setIfInBounds_toArray, List.set_cons_zero, List.set_cons_succ]
    refine wpAnyH_take (i := 10) (v := undef) rfl (by kernel_rfl) (by kernel_rfl) (by kernel_rfl) (fun _ _ _ h => h) (Or.inr ⟨by rfl, rfl⟩) (by assumption) ?rest10zY
    try simp only [Act.put, List.getElem_toArray, List.getElem_cons_succ, List.getElem_cons_zero, List.setIfInBounds_toArray, List.set_cons_zero, List.set_cons_succ]
    refine wpAnyH_take (i := 11) (v := undef) rfl (by kernel_rfl) (by kernel_rfl) (by kernel_rfl) (fun _ _ _ h => h) (Or.inr ⟨by rfl, rfl⟩) (by assumption) ?rest11zY
    try simp only [Act.put, List.getElem_toArray, List.getElem_cons_succ, List.getElem_cons_zero, List.setIfInBounds_toArray, List.set_cons_zero, List.set_cons_succ]
    refine wpAnyH_take (i := 12) (v := undef) rfl (by kernel_rfl) (by kernel_rfl) (by kernel_rfl) (fun _ _ _ h => h) (Or.inr ⟨by rfl, rfl⟩) (by assumption) ?rest12zY
    try simp only [Act.put, List.getElem_toArray, List.getElem_cons_succ, List.getElem_cons_zero, List.setIfInBounds_toArray, List.set_cons_zero, List.set_cons_succ]
    refine wpAnyH_take (i := 13) (v := undef) rfl (by kernel_rfl) (by kernel_rfl) (by kernel_rfl) (fun _ _ _ h => h) (Or.inr ⟨by rfl, rfl⟩) (by assumption) ?rest13zY
    try simp only [Act.put, List.getElem_toArray, List.getElem_cons_succ, List.getElem_cons_zero, List.setIfInBounds_toArray, List.set_cons_zero, List.set_cons_succ]
    refine wpAnyH_take (i := 14) (v := undef) rfl (by kernel_rfl) (by kernel_rfl) (by kernel_rfl) (fun _ _ _ h => h) (Or.inr ⟨by rfl, rfl⟩) (by assumption) ?rest14zY
    try simp only [Act.put, List.getElem_toArray, List.getElem_cons_succ, List.getElem_cons_zero, List.setIfInBounds_toArray, List.set_cons_zero, List.set_cons_succ]
    refine wpAnyH_take (i := 15) (v := undef) rfl (by kernel_rfl) (by kernel_rfl) (by kernel_rfl) (fun _ _ _ h => h) (Or.inr ⟨by rfl, rfl⟩) (by assumption) ?rest15zY
    try simp only [Act.put, List.getElem_toArray, List.getElem_cons_succ, List.getElem_cons_zero, List.setIfInBounds_toArray, List.set_cons_zero, List.set_cons_succ]
    refine wpAnyH_take (i := 16) (v := ?v16zY) rfl (by kernel_rfl) (by kernel_rfl) (by kernel_rfl) (fun _ _ _ h => h) (Or.inl ⟨by rfl, ?hy16zY⟩) (by assumption) ?rest16zY
    case hy16zY => intro w hSw; (try dsimp only at hSw); first | (go_simp; done) | (go_simp; with_reducible rfl)
    try simp only [Act.put, List.getElem_toArray, List.getElem_cons_succ, List.getElem_cons_zero, List.setIfInBounds_toArray, List.set_cons_zero, List.set_cons_succ]
    refine wpAnyH_take (i := 17) (v := ?v17zY) rfl (by kernel_rfl) (by kernel_rfl) (by kernel_rfl) (fun _ _ _ h => h) (Or.inl ⟨by rfl, ?hy17zY⟩) (by assumption) ?rest17zY
    case hy17zY => intro w hSw; (try dsimp only at hSw); first | (go_simp; done) | (go_simp; with_reducible rfl)
    try simp only [Act.put, List.getElem_toArray, List.getElem_cons_succ, List.getElem_cons_zero, List.setIfInBounds_toArray, List.set_cons_zero, List.set_cons_succ]
    refine wpAnyH_done (by kernel_rfl) ?_ _
    all_goals
      have HS9 := Lib.hid hHeld.2.2.2.2.2
      clear hHeld
      go_wp2_with fail
      go_ret
      have hz9 := HZ9.out
      subst hz9
      exact ⟨HQ.out, Below.down HB.out HS9.out.below HB.out.size⟩
  | false =>
    have HM := Lib.hid hm
    have HQ : Hid (Q = c.gs.any (cgB xf p true)) := Lib.hid (by rw [HX.out, hm]; rfl)
    clear hm
    refine wp_region_held_drew (S := (fun w' => (w'.cell? ⟨y, 0, none⟩ = some (.int .i64 c.fr) ∧ w'.cell? ⟨y, 1, none⟩ = some (.slice (some ⟨b, o, none⟩) m cap) ∧ w'.cell? ⟨y, 2, none⟩ = some vd ∧ w'.cell? ⟨y, 3, none⟩ = some (.int .i64 c.mj) ∧ w'.cell? ⟨y, 4, none⟩ = some vw ∧ w'.cell? ⟨y, 5, none⟩ = some vg ∧ w'.cell? ⟨y, 6, none⟩ = some (.int .i64 c.se) ∧ w'.cell? ⟨y, 7, none⟩ = some (.int .i64 c.qu) ∧ w'.cell? ⟨y, 8, none⟩ = some (.int .i64 c.qt)) ∧ w'.cell? ⟨y1, 0, none⟩ = some (.int .i64 (p : Int)) ∧ w'.cell? ⟨y2, 0, none⟩ = some (.func (.func 31) #[] #[]) ∧ w'.cell? ⟨z, 0, none⟩ = some (.int .i64 xf) ∧ w'.cell? ⟨b, o + p * 5 + 2, none⟩ = some (.slice A2 m2 c2) ∧ RcS w1 c (.slice (some ⟨b, o, none⟩) m cap) vd vw vg y y1 y2 z (p : Int) (.func (.func 31) #[] #[]) xf xo xl w')) (by kernel_rfl) ?_ (fun hHeld => ?_)
    · try dsimp only
      (go_split_ands; refine RcS.all hb1 hrow ?_; (first | assumption | (exact RcS.drew (by assumption)) | (exact RcS.next (by assumption) (by assumption))))
    refine wpAnyH_take (i := 0) (v := ?v0zN) rfl (by kernel_rfl) (by kernel_rfl) (by kernel_rfl) (fun _ _ _ h => h) (Or.inl ⟨by rfl, ?hy0zN⟩) (by assumption) ?rest0zN
    case hy0zN => intro w hSw; (try dsimp only at hSw); first | (go_simp; done) | (go_simp; with_reducible rfl)
    try simp only [Act.put, List.getElem_toArray, List.getElem_cons_succ, List.getElem_cons_zero, List.setIfInBounds_toArray, List.set_cons_zero, List.set_cons_succ]
    refine wpAnyH_take (i := 1) (v := ?v1zN) rfl (by kernel_rfl) (by kernel_rfl) (by kernel_rfl) (fun _ _ _ h => h) (Or.inl ⟨by rfl, ?hy1zN⟩) (by assumption) ?rest1zN
    case hy1zN => intro w hSw; (try dsimp only at hSw); first | (go_simp; done) | (go_simp; with_reducible rfl)
    try simp only [Act.put, List.getElem_toArray, List.getElem_cons_succ, List.getElem_cons_zero, List.setIfInBounds_toArray, List.set_cons_zero, List.set_cons_succ]
    refine wpAnyH_take (i := 2) (v := ?v2zN) rfl (by kernel_rfl) (by kernel_rfl) (by kernel_rfl) (fun _ _ _ h => h) (Or.inl ⟨by rfl, ?hy2zN⟩) (by assumption) ?rest2zN
    case hy2zN => intro w hSw; (try dsimp only at hSw); first | (go_simp; done) | (go_simp; with_reducible rfl)
    try simp only [Act.put, List.getElem_toArray, List.getElem_cons_succ, List.getElem_cons_zero, List.setIfInBounds_toArray, List.set_cons_zero, List.set_cons_succ]
    refine wpAnyH_take (i := 3) (v := ?v3zN) rfl (by kernel_rfl) (by kernel_rfl) (by kernel_rfl) (fun _ _ _ h => h) (Or.inl ⟨by rfl, ?hy3zN⟩) (by assumption) ?rest3zN
    case hy3zN => intro w hSw; (try dsimp only at hSw); first | (go_simp; done) | (go_simp; with_reducible rfl)
    try simp only [Act.put, List.getElem_toArray, List.getElem_cons_succ, List.getElem_cons_zero, List.setIfInBounds_toArray, List.set_cons_zero, List.set_cons_succ]
    refine wpAnyH_take (i := 4) (v := ?v4zN) rfl (by kernel_rfl) (by kernel_rfl) (by kernel_rfl) (fun _ _ _ h => h) (Or.inl ⟨by rfl, ?hy4zN⟩) (by assumption) ?rest4zN
    case hy4zN => intro w hSw; (try dsimp only at hSw); first | (go_simp; done) | (go_simp; with_reducible rfl)
    try simp only [Act.put, List.getElem_toArray, List.getElem_cons_succ, List.getElem_cons_zero, List.setIfInBounds_toArray, List.set_cons_zero, List.set_cons_succ]
    refine wpAnyH_take (i := 5) (v := ?v5zN) rfl (by kernel_rfl) (by kernel_rfl) (by kernel_rfl) (fun _ _ _ h => h) (Or.inl ⟨by rfl, ?hy5zN⟩) (by assumption) ?rest5zN
    case hy5zN => intro w hSw; (try dsimp only at hSw); first | (go_simp; done) | (go_simp; with_reducible rfl)
    try simp only [Act.put, List.getElem_toArray, List.getElem_cons_succ, List.getElem_cons_zero, List.setIfInBounds_toArray, List.set_cons_zero, List.set_cons_succ]
    refine wpAnyH_take (i := 6) (v := ?v6zN) rfl (by kernel_rfl) (by kernel_rfl) (by kernel_rfl) (fun _ _ _ h => h) (Or.inl ⟨by rfl, ?hy6zN⟩) (by assumption) ?rest6zN
    case hy6zN => intro w hSw; (try dsimp only at hSw); first | (go_simp; done) | (go_simp; with_reducible rfl)
    try simp only [Act.put, List.getElem_toArray, List.getElem_cons_succ, List.getElem_cons_zero, List.setIfInBounds_toArray, List.set_cons_zero, List.set_cons_succ]
    refine wpAnyH_take (i := 7) (v := ?v7zN) rfl (by kernel_rfl) (by kernel_rfl) (by kernel_rfl) (fun _ _ _ h => h) (Or.inl ⟨by rfl, ?hy7zN⟩) (by assumption) ?rest7zN
    case hy7zN => intro w hSw; (try dsimp only at hSw); first | (go_simp; done) | (go_simp; with_reducible rfl)
    try simp only [Act.put, List.getElem_toArray, List.getElem_cons_succ, List.getElem_cons_zero, List.setIfInBounds_toArray, List.set_cons_zero, List.set_cons_succ]
    refine wpAnyH_ready (rs := [8]) (by kernel_rfl) (by simp) ?_
    refine AllReadyH.cons rfl (fun K hK => ?_) AllReadyH.nil
    go_simp
    refine (HCT.out _ hHeld.2.2.2.2.2.below).mono ?_
    rintro e w5 ⟨rfl, hw5⟩
    subst hw5
    rw [HM.out]
    go_wp2_with fail
    refine hK.out _ _ ?_ (fun hHeld2 => ?_)
    · try dsimp only
      (go_split_ands; refine RcS.all hb1 hrow ?_; (first | assumption | (exact RcS.drew (by assumption)) | (exact RcS.next (by assumption) (by assumption))))
    clear hK K hHeld
    have hHeld := hHeld2; clear hHeld2
    try simp only [Act.put, List.getElem_toArray, List.getElem_cons_succ, List.getElem_cons_zero, List.setIfInBounds_toArray, List.set_cons_zero, List.set_cons_succ]
    refine wpAnyH_take (i := 9) (v := ?v9zN) rfl (by kernel_rfl) (by kernel_rfl) (by kernel_rfl) (fun _ _ _ h => h) (Or.inl ⟨by rfl, ?hy9zN⟩) (by assumption) ?rest9zN
    case hy9zN => intro w hSw; (try dsimp only at hSw); first | (go_simp; done) | (go_simp; with_reducible rfl)
    try simp only [Act.put, List.getElem_toArray, List.getElem_cons_succ, List.getElem_cons_zero, List.setIfInBounds_toArray, List.set_cons_zero, List.set_cons_succ]
    refine wpAnyH_take (i := 10) (v := ?v10zN) rfl (by kernel_rfl) (by kernel_rfl) (by kernel_rfl) (fun _ _ _ h => h) (Or.inl ⟨by rfl, ?hy10zN⟩) (by assumption) ?rest10zN
    case hy10zN => intro w hSw; (try dsimp only at hSw); first | (go_simp; done) | (go_simp; with_reducible rfl)
    try simp only [Act.put, List.getElem_toArray, List.getElem_cons_succ, List.getElem_cons_zero, List.setIfInBounds_toArray, List.set_cons_zero, List.set_cons_succ]
    refine wpAnyH_take (i := 11) (v := ?v11zN) rfl (by kernel_rfl) (by kernel_rfl) (by kernel_rfl) (fun _ _ _ h => h) (Or.inl ⟨by rfl, ?hy11zN⟩) (by assumption) ?rest11zN
    case hy11zN => intro w hSw; (try dsimp only at hSw); first | (go_simp; done) | (go_simp; with_reducible rfl)
    try simp only [Act.put, List.getElem_toArray, List.getElem_cons_succ, List.getElem_cons_zero, List.setIfInBounds_toArray, List.set_cons_zero, List.set_cons_succ]
    refine wpAnyH_take (i := 12) (v := ?v12zN) rfl (by kernel_rfl) (by kernel_rfl) (by kernel_rfl) (fun _ _ _ h => h) (Or.inl ⟨by rfl, ?hy12zN⟩) (by assumption) ?rest12zN
    case hy12zN => intro w hSw; (try dsimp only at hSw); first | (go_simp; done) | (go_simp; with_reducible rfl)
    try simp only [Act.put, List.getElem_toArray, List.getElem_cons_succ, List.getElem_cons_zero, List.setIfInBounds_toArray, List.set_cons_zero, List.set_cons_succ]
    refine wpAnyH_take (i := 13) (v := ?v13zN) rfl (by kernel_rfl) (by kernel_rfl) (by kernel_rfl) (fun _ _ _ h => h) (Or.inl ⟨by rfl, ?hy13zN⟩) (by assumption) ?rest13zN
    case hy13zN => intro w hSw; (try dsimp only at hSw); first | (go_simp; done) | (go_simp; with_reducible rfl)
    try simp only [Act.put, List.getElem_toArray, List.getElem_cons_succ, List.getElem_cons_zero, List.setIfInBounds_toArray, List.set_cons_zero, List.set_cons_succ]
    refine wpAnyH_take (i := 14) (v := ?v14zN) rfl (by kernel_rfl) (by kernel_rfl) (by kernel_rfl) (fun _ _ _ h => h) (Or.inl ⟨by rfl, ?hy14zN⟩) (by assumption) ?rest14zN
    case hy14zN => intro w hSw; (try dsimp only at hSw); first | (go_simp; done) | (go_simp; with_reducible rfl)
    try simp only [Act.put, List.getElem_toArray, List.getElem_cons_succ, List.getElem_cons_zero, List.setIfInBounds_toArray, List.set_cons_zero, List.set_cons_succ]
    refine wpAnyH_ready (rs := [15]) (by kernel_rfl) (by simp) ?_
    refine AllReadyH.cons rfl (fun K hK => ?_) AllReadyH.nil
    go_simp
    refine (granted_w (HCF.out _ hHeld.2.2.2.2.2.below) _ _).mono ?_
    rintro e w6 ⟨rfl, hb6⟩
    go_wp2_with fail
    refine hK.out _ _ ?_ (fun hHeld2 => ?_)
    · try dsimp only
      (go_split_ands; refine RcS.all hb1 hrow ?_; (first | assumption | (exact RcS.drew (by assumption)) | (exact RcS.next (by assumption) (by assumption))))
    clear hK K hHeld
    have hHeld := hHeld2; clear hHeld2
    try simp only [Act.put, List.getElem_toArray, List.getElem_cons_succ, List.getElem_cons_zero, List.setIfInBounds_toArray, List.set_cons_zero, List.set_cons_succ]
    refine wpAnyH_take (i := 16) (v := ?v16zN) rfl (by kernel_rfl) (by kernel_rfl) (by kernel_rfl) (fun _ _ _ h => h) (Or.inl ⟨by rfl, ?hy16zN⟩) (by assumption) ?rest16zN
    case hy16zN => intro w hSw; (try dsimp only at hSw); first | (go_simp; done) | (go_simp; with_reducible rfl)
    try simp only [Act.put, List.getElem_toArray, List.getElem_cons_succ, List.getElem_cons_zero, List.setIfInBounds_toArray, List.set_cons_zero, List.set_cons_succ]
    refine wpAnyH_take (i := 17) (v := ?v17zN) rfl (by kernel_rfl) (by kernel_rfl) (by kernel_rfl) (fun _ _ _ h => h) (Or.inl ⟨by rfl, ?hy17zN⟩) (by assumption) ?rest17zN
    case hy17zN => intro w hSw; (try dsimp only at hSw); first | (go_simp; done) | (go_simp; with_reducible rfl)
    try simp only [Act.put, List.getElem_toArray, List.getElem_cons_succ, List.getElem_cons_zero, List.setIfInBounds_toArray, List.set_cons_zero, List.set_cons_succ]
    refine wpAnyH_done (by kernel_rfl) ?_ _
    all_goals
      have HS9 := Lib.hid hHeld.2.2.2.2.2
      clear hHeld
      go_wp2_with fail
      go_ret
      have hz9 := HZ9.out
      subst hz9
      exact ⟨by rw [HQ.out]; rfl, Below.down HB.out HS9.out.below HB.out.size⟩


set_option maxHeartbeats 1000000 in
theorem reaches_w {w : World} {c : Cf} {vp vd vw vg : Value} (h : CfAt w vp vd vw vg c) (part at_ n : Int) :
    Calls Try.prog 28 #[.agg #[.int .i64 c.fr, vp, vd, .int .i64 c.mj, vw, vg, .int .i64 c.se, .int .i64 c.qu, .int .i64 c.qt], .int .i64 part, .int .i64 at_, .int .i64 n, .func (.func 31) #[] #[]] w fun e w' => e = .returned (.bool (alB c part at_ n true)) ∧ Below w.heap.size w w' := by
  have b1 : Below w.heap.size w (w.alloc (.cells #[.int .i64 c.fr, vp, vd, .int .i64 c.mj, vw, vg, .int .i64 c.se, .int .i64 c.qu, .int .i64 c.qt] 27)) := (Below.refl _ _).alloc (Nat.le_refl _) _
  have b2 := b1.alloc b1.size (.cells #[.int .i64 part] 3)
  have b3 := b2.alloc b2.size (.cells #[.func (.func 31) #[] #[]] 61)
  have k0 : Blk (((w.alloc (.cells #[.int .i64 c.fr, vp, vd, .int .i64 c.mj, vw, vg, .int .i64 c.se, .int .i64 c.qu, .int .i64 c.qt] 27)).alloc (.cells #[.int .i64 part] 3)).alloc (.cells #[.func (.func 31) #[] #[]] 61)) w.heap.size 27 (cfc c vp vd vw vg) := ((Blk.new w _ (cfc c vp vd vw vg)).alloc _).alloc _
  have k1 : Blk (((w.alloc (.cells #[.int .i64 c.fr, vp, vd, .int .i64 c.mj, vw, vg, .int .i64 c.se, .int .i64 c.qu, .int .i64 c.qt] 27)).alloc (.cells #[.int .i64 part] 3)).alloc (.cells #[.func (.func 31) #[] #[]] 61)) (w.heap.size + 1) 3 [.int .i64 part] := by
    have := (Blk.new (w.alloc (.cells #[.int .i64 c.fr, vp, vd, .int .i64 c.mj, vw, vg, .int .i64 c.se, .int .i64 c.qu, .int .i64 c.qt] 27)) 3 [.int .i64 part]).alloc (.cells #[.func (.func 31) #[] #[]] 61)
    simpa using this
  have k2 : Blk (((w.alloc (.cells #[.int .i64 c.fr, vp, vd, .int .i64 c.mj, vw, vg, .int .i64 c.se, .int .i64 c.qu, .int .i64 c.qt] 27)).alloc (.cells #[.int .i64 part] 3)).alloc (.cells #[.func (.func 31) #[] #[]] 61)) (w.heap.size + 1 + 1) 61 [.func (.func 31) #[] #[]] := by
    have := Blk.new ((w.alloc (.cells #[.int .i64 c.fr, vp, vd, .int .i64 c.mj, vw, vg, .int .i64 c.se, .int .i64 c.qu, .int .i64 c.qt] 27)).alloc (.cells #[.int .i64 part] 3)) 61 [.func (.func 31) #[] #[]]
    simpa using this
  have HB := Lib.hid b3
  have H3 := Lib.hid (h.below b3)
  have K0 := Lib.hid k0; have K1 := Lib.hid k1; have K2 := Lib.hid k2
  obtain ⟨f0, f1, f2, f3, f4, f5, f6, f7, f8⟩ := cf_at k0
  have g1 := k1.cell 0
  simp only [List.getElem?_cons_zero] at g1
  have HX : Hid (alB c part at_ n true = (cfMay c && (inP c.ps.length part && (fitB at_ n (c.fr * 64) && (spl at_.toNat n.toNat).all (fun x => rcB c part x.1 true))))) := Lib.hid rfl
  clear h b1 b2 b3 k0 k1 k2
  generalize alB c part at_ n true = Q at *
  have HM := Lib.hid (fun (W : World) (hW : CfAt W vp vd vw vg c) => cmay_any hW)
  cases hm : cfMay c with
  | false =>
    have e : Q = false := by rw [HX.out, hm]; rfl
    subst e
    have HM3 := Lib.hid (HM.out _ H3.out)
    rw [hm] at HM3
    clear hm
    go_enter Try.func28, Try.ntmps28
    go_wp2_with fail
    refine HM3.out.mono ?_
    rintro e w4 ⟨rfl, b4⟩
    go_wp2_with fail
    go_ret
    exact ⟨rfl, Below.down HB.out b4 HB.out.size⟩
  | true =>
    have hF : 1 ≤ c.fr ∧ c.fr ≤ 64 := by
      unfold cfMay at hm
      rw [Bool.and_eq_true] at hm
      exact btw_iff.1 hm.1
    have hU : unB c = true := by
      unfold cfMay at hm
      simp only [Bool.and_eq_true] at hm
      exact hm.2.2.2.1
    obtain ⟨F, hFe⟩ : ∃ F : Nat, c.fr = F := ⟨c.fr.toNat, by omega⟩
    obtain ⟨F1, F2⟩ := hF
    rw [hFe] at F1 F2 f0
    have HFe := Lib.hid hFe
    have HU := Lib.hid hU
    have HM3 := Lib.hid (HM.out _ H3.out)
    rw [hm] at HM3
    have HPT := Lib.hid (fun (W : World) (hW : CfAt W vp vd vw vg c) => haspart_any hW part)
    have HX2 : Hid (Q = (inP c.ps.length part && (fitB at_ n (F * 64) && (spl at_.toNat n.toNat).all (fun x => rcB c part x.1 true)))) := Lib.hid (by rw [HX.out, hm, hFe]; rfl)
    clear hm HX hU
    rw [hFe] at HM3 HPT HB H3 K0 K1 K2 f1 f2 f3 f4 f5 f6 f7 f8 g1 ⊢
    clear hFe
    cases hi : inP c.ps.length part with
    | false =>
      have e : Q = false := by rw [HX2.out, hi]; rfl
      subst e
      rw [hi] at HPT
      clear hi
      go_enter Try.func28, Try.ntmps28
      go_wp2_with fail
      refine HM3.out.mono ?_
      rintro e w4 ⟨rfl, b4⟩
      have H4 := Lib.hid (H3.out.below b4)
      have B4 := Lib.hid (Below.down HB.out b4 HB.out.size)
      have k0 := K0.out.below b4 K0.out.lt
      have k1 := K1.out.below b4 K1.out.lt
      obtain ⟨f0, f1, f2, f3, f4, f5, f6, f7, f8⟩ := cf_at k0
      have g1 := k1.cell 0
      simp only [List.getElem?_cons_zero] at g1
      rw [HFe.out] at f0
      clear k0 k1 b4
      go_wp2_with fail
      refine (HPT.out _ H4.out).mono ?_
      rintro e w5 ⟨rfl, b5⟩
      go_wp2_with fail
      go_ret
      exact ⟨rfl, Below.down B4.out b5 B4.out.size⟩
    | true =>
      rw [hi] at HPT
      obtain ⟨p, rfl, hp⟩ := (inP_iff _ _).1 hi
      have HX3 : Hid (Q = (fitB at_ n (F * 64) && (spl at_.toNat n.toNat).all (fun x => rcB c p x.1 true))) := Lib.hid (by rw [HX2.out, hi]; rfl)
      have HP9 := Lib.hid hp
      have HMY := Lib.hid (fun (W : World) => may_any at_ n (F * 64) W (by omega))
      clear hi HX2 hp
      go_enter Try.func28, Try.ntmps28
      go_wp2_with fail
      refine HM3.out.mono ?_
      rintro e w4 ⟨rfl, b4⟩
      have H4 := Lib.hid (H3.out.below b4)
      have B4 := Lib.hid (Below.down HB.out b4 HB.out.size)
      have J0 := Lib.hid (K0.out.below b4 K0.out.lt)
      have J1 := Lib.hid (K1.out.below b4 K1.out.lt)
      have J2 := Lib.hid (K2.out.below b4 K2.out.lt)
      obtain ⟨f0, f1, f2, f3, f4, f5, f6, f7, f8⟩ := cf_at J0.out
      have g1 := J1.out.cell 0
      simp only [List.getElem?_cons_zero] at g1
      rw [HFe.out] at f0
      clear b4
      go_wp2_with fail
      refine (HPT.out _ H4.out).mono ?_
      rintro e w5 ⟨rfl, b5⟩
      have H5 := Lib.hid (H4.out.below b5)
      have B5 := Lib.hid (Below.down B4.out b5 B4.out.size)
      have I0 := Lib.hid (J0.out.below b5 J0.out.lt)
      have I1 := Lib.hid (J1.out.below b5 J1.out.lt)
      have I2 := Lib.hid (J2.out.below b5 J2.out.lt)
      have f0 := I0.out.cell 0
      have e0 : (cfc c vp vd vw vg)[0]? = some (.int .i64 (F : Int)) := by rw [← HFe.out]; rfl
      rw [e0] at f0
      clear b5 e0 f1 f2 f3 f4 f5 f6 f7 f8 g1 HM3 HPT
      go_wp2_with fail
      refine (HMY.out _).mono ?_
      rintro e w6 ⟨rfl, rfl⟩
      cases hf : fitB at_ n (F * 64) with
      | false =>
        have e : Q = false := by rw [HX3.out, hf]; rfl
        subst e
        clear hf
        go_wp2_with fail
        go_ret
        exact ⟨rfl, B5.out⟩
      | true =>
        have hf2 := of_decide_eq_true hf
        obtain ⟨r0, r1, r2, r3⟩ := hf2
        obtain ⟨a, rfl⟩ := Int.eq_ofNat_of_zero_le r0
        obtain ⟨m, rfl⟩ := Int.eq_ofNat_of_zero_le r1
        have HX4 : Hid (Q = (spl a m).all (fun x => rcB c p x.1 true)) := Lib.hid (by rw [HX3.out, hf, Bool.true_and, Int.toNat_natCast, Int.toNat_natCast])
        have HSP := Lib.hid (fun (W : World) => split_yes (a : Int) (m : Int) W (by omega) (by omega) (by omega))
        clear hf HX3 HMY
        go_wp2_with fail
        refine (HSP.out _).mono ?_
        rintro e w7 ⟨v, rfl, ho, b7⟩
        simp only [Int.toNat_natCast] at ho
        have H7 := H5.out.below b7
        have B7 := Lib.hid (Below.down B5.out b7 B5.out.size)
        have i0 := I0.out.below b7 I0.out.lt
        have i1 := I1.out.below b7 I1.out.lt
        have i2 := I2.out.below b7 I2.out.lt
        have hll := spl_len m a
        obtain ⟨A, cap, rfl, hcap, hxl, hA⟩ := Sl.own ho
        obtain ⟨b, o, hbo⟩ : ∃ b o, 0 < (spl a m).length → A = some ⟨b, o, none⟩ ∧ b < w7.heap.size ∧ ∀ j u, (flat (spl a m))[j]? = some u → w7.cell? ⟨b, o + j, none⟩ = some u := by
          by_cases h0 : 0 < (spl a m).length
          · obtain ⟨b, o, q1, q2, q3⟩ := hA h0
            exact ⟨b, o, fun _ => ⟨q1, q2, q3⟩⟩
          · exact ⟨0, 0, fun h => absurd h h0⟩
        have hE := each_Piece A b o (spl a m).length cap w.heap.size (w.heap.size + 1) (w.heap.size + 1 + 1) (fun i => .int .i64 (((spl a m).getD i (0, 0, 0)).1 : Nat)) (fun i => .int .i64 (((spl a m).getD i (0, 0, 0)).2.1 : Nat)) (fun i => .int .i64 (((spl a m).getD i (0, 0, 0)).2.2 : Nat))
          (fun i => rcB c p (((spl a m).getD i (0, 0, 0)).1 : Nat) true) nos (fun _ W => Below w7.heap.size w7 W) w7 (by unfold maxLen; omega) (fun h0 => (hbo h0).1) nos_lt
          (fun i W W' hI hW => Below.down hI hW hI.size)
          (fun i W hi hI => by
            obtain ⟨_, q2, q3⟩ := hbo (by omega)
            obtain ⟨p0, p1, p2⟩ := flat_get (spl a m) i hi
            have g := fun x => hI.cell (p := ⟨b, x, none⟩) q2
            have hgd : (spl a m).getD i (0, 0, 0) = (spl a m)[i] := by simp [List.getD, List.getElem?_eq_getElem hi]
            rw [hgd]
            refine ⟨(g _).trans (q3 _ _ p0), ?_, ?_⟩
            · have := (g _).trans (q3 _ _ p1); rw [← Nat.add_assoc] at this; exact this
            · have := (g _).trans (q3 _ _ p2); rw [← Nat.add_assoc] at this; exact this)
          (fun i W hi _ hI => by
            refine (rc1_w (H7.below hI) HU.out p HP9.out _ _ _ _ _ _ (i0.below hI i0.lt) (i1.below hI i1.lt) (i2.below hI i2.lt)).mono ?_
            rintro e w' ⟨rfl, hb⟩
            exact ⟨rfl, Below.down hI hb hI.size, Fo.of hb _⟩)
          (Below.refl _ _)
        rw [all_range (spl a m) (0, 0, 0) (fun x => rcB c p x.1 true), ← HX4.out] at hE
        have HE := Lib.hid hE
        have hlm : (spl a m).length ≤ 9223372036854775807 := by omega
        clear hE hbo hA hxl ho H7 i0 i1 i2 b7
        generalize (spl a m).length = L at *
        go_wp2_with fail
        refine HE.out.mono ?_
        rintro e w8 ⟨rfl, -, hf8⟩
        have HB8 := Lib.hid (Below.down B7.out hf8.nos B7.out.size)
        clear hf8
        go_wp2_with fail
        go_ret
        exact ⟨rfl, HB8.out⟩

theorem cwrites_any {w : World} {c : Cf} {vp vd vw vg : Value} (h : CfAt w vp vd vw vg c) (part at_ n : Int) :
    Calls Try.prog 13 #[.agg #[.int .i64 c.fr, vp, vd, .int .i64 c.mj, vw, vg, .int .i64 c.se, .int .i64 c.qu, .int .i64 c.qt], .int .i64 part, .int .i64 at_, .int .i64 n] w fun e w' => e = .returned (.bool (alB c part at_ n true)) ∧ Below w.heap.size w w' := by
  obtain ⟨hb, hB⟩ := cf_box w c vp vd vw vg
  have HC := Lib.hid (reaches_w (h.below hB) part at_ n)
  obtain ⟨k0, k1, k2, k3, k4, k5, k6, k7, k8⟩ := cf_at hb
  have HB := Lib.hid hB
  clear hb hB h
  go_enter Try.func13, Try.ntmps13
  go_wp2_with fail
  refine HC.out.mono ?_
  rintro e w1 ⟨rfl, b1⟩
  go_wp2_with fail
  go_ret
  exact ⟨rfl, Below.down HB.out b1 HB.out.size⟩


end Go.Proofs.Ytamhnnkmjhapmaa
