/-
  What the proofs lean on: contracts of the program's functions, plain facts.
-/
import Derived.Test.YtkaalinoiilmoaaGreatViewsW7
import Derived.Test.YtkaalinoiilmoaaGreatViewsW2
import Derived.Test.YtkaalinoiilmoaaGreatViewsW1
namespace Go.Proofs.YtkaalinoiilmoaaGreat
open Go.RowKit
set_option linter.unusedVariables false
set_option linter.unusedSimpArgs false
set_option maxRecDepth 100000
structure VdS (w1 : World) (c : Cf) (vp vd vw vg : Value) (y pb pa i j : Nat) (li ci lj cj : Int) (w' : World) : Prop where
  cb : Blk w' y 27 (cfc c vp vd vw vg)
  ca : CfAt w' vp vd vw vg c
  rows : w'.cell? ⟨pb, pa + i * 5, none⟩ = some (.int .i64 li) ∧ w'.cell? ⟨pb, pa + i * 5 + 1, none⟩ = some (.int .i64 ci) ∧ w'.cell? ⟨pb, pa + j * 5, none⟩ = some (.int .i64 lj) ∧ w'.cell? ⟨pb, pa + j * 5 + 1, none⟩ = some (.int .i64 cj)
  rlt : pb < w'.heap.size
  below : Below w1.heap.size w1 w'
section
variable {w1 w' w2 : World} {c : Cf} {vp vd vw vg : Value} {y pb pa i j : Nat} {li ci lj cj : Int}
theorem VdS.next (h : VdS w1 c vp vd vw vg y pb pa i j li ci lj cj w') (hb : Below w'.heap.size w' w2) : VdS w1 c vp vd vw vg y pb pa i j li ci lj cj w2 := by
  have g := fun x => hb.cell (p := ⟨pb, x, none⟩) h.rlt
  obtain ⟨r0, r1, r2, r3⟩ := h.rows
  exact ⟨h.cb.below hb h.cb.lt, h.ca.below hb, ⟨(g _).trans r0, (g _).trans r1, (g _).trans r2, (g _).trans r3⟩, Nat.lt_of_lt_of_le h.rlt hb.size, Below.down h.below hb h.below.size⟩
theorem VdS.drew (h : VdS w1 c vp vd vw vg y pb pa i j li ci lj cj w') : VdS w1 c vp vd vw vg y pb pa i j li ci lj cj w'.drew := h.next (bdrewN (Below.refl _ _) 1)
theorem VdS.all (h : VdS w1 c vp vd vw vg y pb pa i j li ci lj cj w') : (w'.cell? ⟨y, 0, none⟩ = some (.int .i64 c.fr) ∧ w'.cell? ⟨y, 1, none⟩ = some vp ∧ w'.cell? ⟨y, 2, none⟩ = some vd ∧ w'.cell? ⟨y, 3, none⟩ = some (.int .i64 c.mj) ∧ w'.cell? ⟨y, 4, none⟩ = some vw ∧ w'.cell? ⟨y, 5, none⟩ = some vg ∧ w'.cell? ⟨y, 6, none⟩ = some (.int .i64 c.se) ∧ w'.cell? ⟨y, 7, none⟩ = some (.int .i64 c.qu) ∧ w'.cell? ⟨y, 8, none⟩ = some (.int .i64 c.qt) ∧ w'.cell? ⟨pb, pa + i * 5, none⟩ = some (.int .i64 li) ∧ w'.cell? ⟨pb, pa + i * 5 + 1, none⟩ = some (.int .i64 ci) ∧ w'.cell? ⟨pb, pa + j * 5, none⟩ = some (.int .i64 lj) ∧ w'.cell? ⟨pb, pa + j * 5 + 1, none⟩ = some (.int .i64 cj)) ∧ VdS w1 c vp vd vw vg y pb pa i j li ci lj cj w' := by
  obtain ⟨k0, k1, k2, k3, k4, k5, k6, k7, k8⟩ := cf_at h.cb
  exact ⟨⟨k0, k1, k2, k3, k4, k5, k6, k7, k8, h.rows⟩, h⟩
end
set_option maxHeartbeats 2000000 in
theorem vdirect_any {w : World} {c : Cf} {vp vd vw vg : Value} (hc : CfAt w vp vd vw vg c) (i j : Nat) (hi : i < c.ps.length) (hj : j < c.ps.length) :
    Calls Tryz.prog 49 #[.agg #[.int .i64 c.fr, vp, vd, .int .i64 c.mj, vw, vg, .int .i64 c.se, .int .i64 c.qu, .int .i64 c.qt], .int .i64 (i : Int), .int .i64 (j : Int)] w fun e w' => e = .returned (.bool (dN c i j)) ∧ Below w.heap.size w w' := by
  obtain ⟨A, cap, pb, pa, sv, rfl, hA, hr⟩ := hc.ps.rows
  obtain ⟨rfl, hpb⟩ := hA (by omega)
  obtain ⟨⟨i0, i1, -, -, -⟩, -⟩ := hr i hi
  obtain ⟨⟨j0, j1, -, -, -⟩, -⟩ := hr j hj
  have hps := hc.pz.1
  obtain ⟨hb, hB⟩ := cf_box w c (.slice (some ⟨pb, pa, none⟩) c.ps.length cap) vd vw vg
  have g := fun x => hB.cell (p := ⟨pb, x, none⟩) hpb
  have hS : VdS (w.alloc (.cells #[.int .i64 c.fr, (.slice (some ⟨pb, pa, none⟩) c.ps.length cap), vd, .int .i64 c.mj, vw, vg, .int .i64 c.se, .int .i64 c.qu, .int .i64 c.qt] 27)) c (.slice (some ⟨pb, pa, none⟩) c.ps.length cap) vd vw vg w.heap.size pb pa i j (c.ps.getD i paD).lv (c.ps.getD i paD).ct (c.ps.getD j paD).lv (c.ps.getD j paD).ct (w.alloc (.cells #[.int .i64 c.fr, (.slice (some ⟨pb, pa, none⟩) c.ps.length cap), vd, .int .i64 c.mj, vw, vg, .int .i64 c.se, .int .i64 c.qu, .int .i64 c.qt] 27)) :=
    ⟨hb, hc.below hB, ⟨(g _).trans i0, (g _).trans i1, (g _).trans j0, (g _).trans j1⟩, Nat.lt_of_lt_of_le hpb hB.size, Below.refl _ _⟩
  have HB := Lib.hid hB
  obtain ⟨Q, hQ⟩ : ∃ Q, dN c i j = Q := ⟨_, rfl⟩
  rw [hQ]
  obtain ⟨L, hL⟩ : ∃ L, ldB c i j = L := ⟨_, rfl⟩
  obtain ⟨G1, hG1⟩ : ∃ G, gtB c i j false = G := ⟨_, rfl⟩
  obtain ⟨G2, hG2⟩ : ∃ G, gtB c j i true = G := ⟨_, rfl⟩
  unfold dN dfB at hQ
  rw [hL, hG1, hG2] at hQ
  unfold ldB at hL
  simp only [Int.toNat_natCast] at hL
  have HQ := Lib.hid hQ; have HL := Lib.hid hL; have HG1 := Lib.hid hG1; have HG2 := Lib.hid hG2
  clear hQ hL hG1 hG2 hB hb g i0 i1 j0 j1 hr hA hc
  generalize (c.ps.getD i paD).lv = li at *
  generalize (c.ps.getD i paD).ct = ci at *
  generalize (c.ps.getD j paD).lv = lj at *
  generalize (c.ps.getD j paD).ct = cj at *
  generalize hn : c.ps.length = n at *
  have HN := Lib.hid hn
  clear hn
  have hii : (i : Int) < (n : Int) := by omega
  have hji : (j : Int) < (n : Int) := by omega
  by_cases he : i = j
  · have HQ9 := Lib.hid (show Q = true by rw [← HQ.out, he]; simp)
    have hee : ((i : Int) == (j : Int)) = true := by rw [he]; simp
    clear he
    go_enter Tryz.func49, Tryz.ntmps49
    go_wp2_with fail
    generalize w.alloc (.cells #[.int .i64 c.fr, (.slice (some ⟨pb, pa, none⟩) n cap), vd, .int .i64 c.mj, vw, vg, .int .i64 c.se, .int .i64 c.qu, .int .i64 c.qt] 27) = w1 at *
    generalize hz : w.heap.size = y at *
    refine wp_region_held_drew (S := (fun w' => (w'.cell? ⟨y, 0, none⟩ = some (.int .i64 c.fr) ∧ w'.cell? ⟨y, 1, none⟩ = some (.slice (some ⟨pb, pa, none⟩) n cap) ∧ w'.cell? ⟨y, 2, none⟩ = some vd ∧ w'.cell? ⟨y, 3, none⟩ = some (.int .i64 c.mj) ∧ w'.cell? ⟨y, 4, none⟩ = some vw ∧ w'.cell? ⟨y, 5, none⟩ = some vg ∧ w'.cell? ⟨y, 6, none⟩ = some (.int .i64 c.se) ∧ w'.cell? ⟨y, 7, none⟩ = some (.int .i64 c.qu) ∧ w'.cell? ⟨y, 8, none⟩ = some (.int .i64 c.qt) ∧ w'.cell? ⟨pb, pa + i * 5, none⟩ = some (.int .i64 li) ∧ w'.cell? ⟨pb, pa + i * 5 + 1, none⟩ = some (.int .i64 ci) ∧ w'.cell? ⟨pb, pa + j * 5, none⟩ = some (.int .i64 lj) ∧ w'.cell? ⟨pb, pa + j * 5 + 1, none⟩ = some (.int .i64 cj)) ∧ VdS w1 c (.slice (some ⟨pb, pa, none⟩) n cap) vd vw vg y pb pa i j li ci lj cj w')) (by kernel_rfl) ?_ (fun hHeld => ?_)
    · try dsimp only
      (refine VdS.all ?_; (first | with_reducible assumption | with_reducible exact VdS.drew (by assumption) | with_reducible exact VdS.drew (And.right (by assumption)) | with_reducible exact VdS.next (by assumption) (by assumption) | with_reducible exact VdS.next (And.right (by assumption)) (by assumption)))
    refine wpAnyH_take (i := 0) (v := ?v0zA) rfl (by kernel_rfl) (by kernel_rfl) (by kernel_rfl) (fun _ _ _ h => h) (Or.inl ⟨by rfl, ?hy0zA⟩) (by assumption) ?rest0zA
    case hy0zA => intro w hSw; (try dsimp only at hSw); first | (go_simp; done) | (go_simp; with_reducible rfl)
    try simp only [Act.put, List.getElem_toArray, List.getElem_cons_succ, List.getElem_cons_zero, List.setIfInBounds_toArray, List.set_cons_zero, List.set_cons_succ]
    refine wpAnyH_take (i := 1) (v := ?v1zA) rfl (by kernel_rfl) (by kernel_rfl) (by kernel_rfl) (fun _ _ _ h => h) (Or.inl ⟨by rfl, ?hy1zA⟩) (by assumption) ?rest1zA
    case hy1zA => intro w hSw; (try dsimp only at hSw); first | (go_simp; done) | (go_simp; with_reducible rfl)
    try simp only [Act.put, List.getElem_toArray, List.getElem_cons_succ, List.getElem_cons_zero, List.setIfInBounds_toArray, List.set_cons_zero, List.set_cons_succ]
    refine wpAnyH_take (i := 2) (v := ?v2zA) rfl (by kernel_rfl) (by kernel_rfl) (by kernel_rfl) (fun _ _ _ h => h) (Or.inl ⟨by rfl, ?hy2zA⟩) (by assumption) ?rest2zA
    case hy2zA => intro w hSw; (try dsimp only at hSw); first | (go_simp; done) | (go_simp; with_reducible rfl)
    try simp only [Act.put, List.getElem_toArray, List.getElem_cons_succ, List.getElem_cons_zero, List.setIfInBounds_toArray, List.set_cons_zero, List.set_cons_succ]
    refine wpAnyH_take (i := 3) (v := ?v3zA) rfl (by kernel_rfl) (by kernel_rfl) (by kernel_rfl) (fun _ _ _ h => h) (Or.inl ⟨by rfl, ?hy3zA⟩) (by assumption) ?rest3zA
    case hy3zA => intro w hSw; (try dsimp only at hSw); first | (go_simp; done) | (go_simp; with_reducible rfl)
    try simp only [Act.put, List.getElem_toArray, List.getElem_cons_succ, List.getElem_cons_zero, List.setIfInBounds_toArray, List.set_cons_zero, List.set_cons_succ]
    refine wpAnyH_take (i := 4) (v := undef) rfl (by kernel_rfl) (by kernel_rfl) (by kernel_rfl) (fun _ _ _ h => h) (Or.inr ⟨by rfl, rfl⟩) (by assumption) ?rest4zA
    try simp only [Act.put, List.getElem_toArray, List.getElem_cons_succ, List.getElem_cons_zero, List.setIfInBounds_toArray, List.set_cons_zero, List.set_cons_succ]
    refine wpAnyH_take (i := 5) (v := undef) rfl (by kernel_rfl) (by kernel_rfl) (by kernel_rfl) (fun _ _ _ h => h) (Or.inr ⟨by rfl, rfl⟩) (by assumption) ?rest5zA
    try simp only [Act.put, List.getElem_toArray, List.getElem_cons_succ, List.getElem_cons_zero, List.setIfInBounds_toArray, List.set_cons_zero, List.set_cons_succ]
    refine wpAnyH_take (i := 6) (v := undef) rfl (by kernel_rfl) (by kernel_rfl) (by kernel_rfl) (fun _ _ _ h => h) (Or.inr ⟨by rfl, rfl⟩) (by assumption) ?rest6zA
    try simp only [Act.put, List.getElem_toArray, List.getElem_cons_succ, List.getElem_cons_zero, List.setIfInBounds_toArray, List.set_cons_zero, List.set_cons_succ]
    refine wpAnyH_take (i := 7) (v := undef) rfl (by kernel_rfl) (by kernel_rfl) (by kernel_rfl) (fun _ _ _ h => h) (Or.inr ⟨by rfl, rfl⟩) (by assumption) ?rest7zA
    try simp only [Act.put, List.getElem_toArray, List.getElem_cons_succ, List.getElem_cons_zero, List.setIfInBounds_toArray, List.set_cons_zero, List.set_cons_succ]
    refine wpAnyH_take (i := 8) (v := undef) rfl (by kernel_rfl) (by kernel_rfl) (by kernel_rfl) (fun _ _ _ h => h) (Or.inr ⟨by rfl, rfl⟩) (by assumption) ?rest8zA
    try simp only [Act.put, List.getElem_toArray, List.getElem_cons_succ, List.getElem_cons_zero, List.setIfInBounds_toArray, List.set_cons_zero, List.set_cons_succ]
    refine wpAnyH_take (i := 9) (v := undef) rfl (by kernel_rfl) (by kernel_rfl) (by kernel_rfl) (fun _ _ _ h => h) (Or.inr ⟨by rfl, rfl⟩) (by assumption) ?rest9zA
    try simp only [Act.put, List.getElem_toArray, List.getElem_cons_succ, List.getElem_cons_zero, List.setIfInBounds_toArray, List.set_cons_zero, List.set_cons_succ]
    refine wpAnyH_take (i := 10) (v := undef) rfl (by kernel_rfl) (by kernel_rfl) (by kernel_rfl) (fun _ _ _ h => h) (Or.inr ⟨by rfl, rfl⟩) (by assumption) ?rest10zA
    try simp only [Act.put, List.getElem_toArray, List.getElem_cons_succ, List.getElem_cons_zero, List.setIfInBounds_toArray, List.set_cons_zero, List.set_cons_succ]
    refine wpAnyH_take (i := 11) (v := undef) rfl (by kernel_rfl) (by kernel_rfl) (by kernel_rfl) (fun _ _ _ h => h) (Or.inr ⟨by rfl, rfl⟩) (by assumption) ?rest11zA
    try simp only [Act.put, List.getElem_toArray, List.getElem_cons_succ, List.getElem_cons_zero, List.setIfInBounds_toArray, List.set_cons_zero, List.set_cons_succ]
    refine wpAnyH_take (i := 12) (v := undef) rfl (by kernel_rfl) (by kernel_rfl) (by kernel_rfl) (fun _ _ _ h => h) (Or.inr ⟨by rfl, rfl⟩) (by assumption) ?rest12zA
    try simp only [Act.put, List.getElem_toArray, List.getElem_cons_succ, List.getElem_cons_zero, List.setIfInBounds_toArray, List.set_cons_zero, List.set_cons_succ]
    refine wpAnyH_take (i := 13) (v := undef) rfl (by kernel_rfl) (by kernel_rfl) (by kernel_rfl) (fun _ _ _ h => h) (Or.inr ⟨by rfl, rfl⟩) (by assumption) ?rest13zA
    try simp only [Act.put, List.getElem_toArray, List.getElem_cons_succ, List.getElem_cons_zero, List.setIfInBounds_toArray, List.set_cons_zero, List.set_cons_succ]
    refine wpAnyH_take (i := 14) (v := undef) rfl (by kernel_rfl) (by kernel_rfl) (by kernel_rfl) (fun _ _ _ h => h) (Or.inr ⟨by rfl, rfl⟩) (by assumption) ?rest14zA
    try simp only [Act.put, List.getElem_toArray, List.getElem_cons_succ, List.getElem_cons_zero, List.setIfInBounds_toArray, List.set_cons_zero, List.set_cons_succ]
    refine wpAnyH_take (i := 15) (v := undef) rfl (by kernel_rfl) (by kernel_rfl) (by kernel_rfl) (fun _ _ _ h => h) (Or.inr ⟨by rfl, rfl⟩) (by assumption) ?rest15zA
    try simp only [Act.put, List.getElem_toArray, List.getElem_cons_succ, List.getElem_cons_zero, List.setIfInBounds_toArray, List.set_cons_zero, List.set_cons_succ]
    refine wpAnyH_take (i := 16) (v := undef) rfl (by kernel_rfl) (by kernel_rfl) (by kernel_rfl) (fun _ _ _ h => h) (Or.inr ⟨by rfl, rfl⟩) (by assumption) ?rest16zA
    try simp only [Act.put, List.getElem_toArray, List.getElem_cons_succ, List.getElem_cons_zero, List.setIfInBounds_toArray, List.set_cons_zero, List.set_cons_succ]
    refine wpAnyH_take (i := 17) (v := ?v17zA) rfl (by kernel_rfl) (by kernel_rfl) (by kernel_rfl) (fun _ _ _ h => h) (Or.inl ⟨by rfl, ?hy17zA⟩) (by assumption) ?rest17zA
    case hy17zA => intro w hSw; (try dsimp only at hSw); first | (go_simp; done) | (go_simp; with_reducible rfl)
    try simp only [Act.put, List.getElem_toArray, List.getElem_cons_succ, List.getElem_cons_zero, List.setIfInBounds_toArray, List.set_cons_zero, List.set_cons_succ]
    refine wpAnyH_take (i := 18) (v := ?v18zA) rfl (by kernel_rfl) (by kernel_rfl) (by kernel_rfl) (fun _ _ _ h => h) (Or.inl ⟨by rfl, ?hy18zA⟩) (by assumption) ?rest18zA
    case hy18zA => intro w hSw; (try dsimp only at hSw); first | (go_simp; done) | (go_simp; with_reducible rfl)
    try simp only [Act.put, List.getElem_toArray, List.getElem_cons_succ, List.getElem_cons_zero, List.setIfInBounds_toArray, List.set_cons_zero, List.set_cons_succ]
    refine wpAnyH_take (i := 19) (v := undef) rfl (by kernel_rfl) (by kernel_rfl) (by kernel_rfl) (fun _ _ _ h => h) (Or.inr ⟨by rfl, rfl⟩) (by assumption) ?rest19zA
    try simp only [Act.put, List.getElem_toArray, List.getElem_cons_succ, List.getElem_cons_zero, List.setIfInBounds_toArray, List.set_cons_zero, List.set_cons_succ]
    refine wpAnyH_take (i := 20) (v := undef) rfl (by kernel_rfl) (by kernel_rfl) (by kernel_rfl) (fun _ _ _ h => h) (Or.inr ⟨by rfl, rfl⟩) (by assumption) ?rest20zA
    try simp only [Act.put, List.getElem_toArray, List.getElem_cons_succ, List.getElem_cons_zero, List.setIfInBounds_toArray, List.set_cons_zero, List.set_cons_succ]
    refine wpAnyH_take (i := 21) (v := undef) rfl (by kernel_rfl) (by kernel_rfl) (by kernel_rfl) (fun _ _ _ h => h) (Or.inr ⟨by rfl, rfl⟩) (by assumption) ?rest21zA
    try simp only [Act.put, List.getElem_toArray, List.getElem_cons_succ, List.getElem_cons_zero, List.setIfInBounds_toArray, List.set_cons_zero, List.set_cons_succ]
    refine wpAnyH_take (i := 22) (v := undef) rfl (by kernel_rfl) (by kernel_rfl) (by kernel_rfl) (fun _ _ _ h => h) (Or.inr ⟨by rfl, rfl⟩) (by assumption) ?rest22zA
    try simp only [Act.put, List.getElem_toArray, List.getElem_cons_succ, List.getElem_cons_zero, List.setIfInBounds_toArray, List.set_cons_zero, List.set_cons_succ]
    refine wpAnyH_take (i := 23) (v := ?v23zA) rfl (by kernel_rfl) (by kernel_rfl) (by kernel_rfl) (fun _ _ _ h => h) (Or.inl ⟨by rfl, ?hy23zA⟩) (by assumption) ?rest23zA
    case hy23zA => intro w hSw; (try dsimp only at hSw); first | (go_simp; done) | (go_simp; with_reducible rfl)
    try simp only [Act.put, List.getElem_toArray, List.getElem_cons_succ, List.getElem_cons_zero, List.setIfInBounds_toArray, List.set_cons_zero, List.set_cons_succ]
    refine wpAnyH_take (i := 24) (v := ?v24zA) rfl (by kernel_rfl) (by kernel_rfl) (by kernel_rfl) (fun _ _ _ h => h) (Or.inl ⟨by rfl, ?hy24zA⟩) (by assumption) ?rest24zA
    case hy24zA => intro w hSw; (try dsimp only at hSw); first | (go_simp; done) | (go_simp; with_reducible rfl)
    try simp only [Act.put, List.getElem_toArray, List.getElem_cons_succ, List.getElem_cons_zero, List.setIfInBounds_toArray, List.set_cons_zero, List.set_cons_succ]
    refine wpAnyH_take (i := 25) (v := undef) rfl (by kernel_rfl) (by kernel_rfl) (by kernel_rfl) (fun _ _ _ h => h) (Or.inr ⟨by rfl, rfl⟩) (by assumption) ?rest25zA
    try simp only [Act.put, List.getElem_toArray, List.getElem_cons_succ, List.getElem_cons_zero, List.setIfInBounds_toArray, List.set_cons_zero, List.set_cons_succ]
    refine wpAnyH_take (i := 26) (v := undef) rfl (by kernel_rfl) (by kernel_rfl) (by kernel_rfl) (fun _ _ _ h => h) (Or.inr ⟨by rfl, rfl⟩) (by assumption) ?rest26zA
    try simp only [Act.put, List.getElem_toArray, List.getElem_cons_succ, List.getElem_cons_zero, List.setIfInBounds_toArray, List.set_cons_zero, List.set_cons_succ]
    refine wpAnyH_take (i := 27) (v := undef) rfl (by kernel_rfl) (by kernel_rfl) (by kernel_rfl) (fun _ _ _ h => h) (Or.inr ⟨by rfl, rfl⟩) (by assumption) ?rest27zA
    try simp only [Act.put, List.getElem_toArray, List.getElem_cons_succ, List.getElem_cons_zero, List.setIfInBounds_toArray, List.set_cons_zero, List.set_cons_succ]
    refine wpAnyH_take (i := 28) (v := undef) rfl (by kernel_rfl) (by kernel_rfl) (by kernel_rfl) (fun _ _ _ h => h) (Or.inr ⟨by rfl, rfl⟩) (by assumption) ?rest28zA
    try simp only [Act.put, List.getElem_toArray, List.getElem_cons_succ, List.getElem_cons_zero, List.setIfInBounds_toArray, List.set_cons_zero, List.set_cons_succ]
    refine wpAnyH_take (i := 29) (v := ?v29zA) rfl (by kernel_rfl) (by kernel_rfl) (by kernel_rfl) (fun _ _ _ h => h) (Or.inl ⟨by rfl, ?hy29zA⟩) (by assumption) ?rest29zA
    case hy29zA => intro w hSw; (try dsimp only at hSw); first | (go_simp; done) | (go_simp; with_reducible rfl)
    try simp only [Act.put, List.getElem_toArray, List.getElem_cons_succ, List.getElem_cons_zero, List.setIfInBounds_toArray, List.set_cons_zero, List.set_cons_succ]
    refine wpAnyH_take (i := 30) (v := ?v30zA) rfl (by kernel_rfl) (by kernel_rfl) (by kernel_rfl) (fun _ _ _ h => h) (Or.inl ⟨by rfl, ?hy30zA⟩) (by assumption) ?rest30zA
    case hy30zA => intro w hSw; (try dsimp only at hSw); first | (go_simp; done) | (go_simp; with_reducible rfl)
    try simp only [Act.put, List.getElem_toArray, List.getElem_cons_succ, List.getElem_cons_zero, List.setIfInBounds_toArray, List.set_cons_zero, List.set_cons_succ]
    refine wpAnyH_done (by kernel_rfl) ?_ _
    all_goals
      have HS9 := Lib.hid hHeld.2.below
      clear hHeld
      go_wp2_with fail
      go_ret
      exact ⟨by rw [HQ9.out]; rfl, by rw [hz]; exact Below.down HB.out HS9.out (by have := HB.out.size; omega)⟩
  · have hee : ((i : Int) == (j : Int)) = false := beq_eq_false_iff_ne.2 (by omega)
    have hd : decide ((i : Int) = (j : Int)) = false := decide_eq_false (by omega)
    rw [hd, Bool.false_or] at HQ
    clear he hd
    cases L with
    | true =>
      have HQ9 := Lib.hid (show Q = true by rw [← HQ.out]; rfl)
      go_enter Tryz.func49, Tryz.ntmps49
      go_wp2_with fail
      generalize w.alloc (.cells #[.int .i64 c.fr, (.slice (some ⟨pb, pa, none⟩) n cap), vd, .int .i64 c.mj, vw, vg, .int .i64 c.se, .int .i64 c.qu, .int .i64 c.qt] 27) = w1 at *
      generalize hz : w.heap.size = y at *
      refine wp_region_held_drew (S := (fun w' => (w'.cell? ⟨y, 0, none⟩ = some (.int .i64 c.fr) ∧ w'.cell? ⟨y, 1, none⟩ = some (.slice (some ⟨pb, pa, none⟩) n cap) ∧ w'.cell? ⟨y, 2, none⟩ = some vd ∧ w'.cell? ⟨y, 3, none⟩ = some (.int .i64 c.mj) ∧ w'.cell? ⟨y, 4, none⟩ = some vw ∧ w'.cell? ⟨y, 5, none⟩ = some vg ∧ w'.cell? ⟨y, 6, none⟩ = some (.int .i64 c.se) ∧ w'.cell? ⟨y, 7, none⟩ = some (.int .i64 c.qu) ∧ w'.cell? ⟨y, 8, none⟩ = some (.int .i64 c.qt) ∧ w'.cell? ⟨pb, pa + i * 5, none⟩ = some (.int .i64 li) ∧ w'.cell? ⟨pb, pa + i * 5 + 1, none⟩ = some (.int .i64 ci) ∧ w'.cell? ⟨pb, pa + j * 5, none⟩ = some (.int .i64 lj) ∧ w'.cell? ⟨pb, pa + j * 5 + 1, none⟩ = some (.int .i64 cj)) ∧ VdS w1 c (.slice (some ⟨pb, pa, none⟩) n cap) vd vw vg y pb pa i j li ci lj cj w')) (by kernel_rfl) ?_ (fun hHeld => ?_)
      · try dsimp only
        (refine VdS.all ?_; (first | with_reducible assumption | with_reducible exact VdS.drew (by assumption) | with_reducible exact VdS.drew (And.right (by assumption)) | with_reducible exact VdS.next (by assumption) (by assumption) | with_reducible exact VdS.next (And.right (by assumption)) (by assumption)))
      refine wpAnyH_take (i := 0) (v := ?v0zB) rfl (by kernel_rfl) (by kernel_rfl) (by kernel_rfl) (fun _ _ _ h => h) (Or.inl ⟨by rfl, ?hy0zB⟩) (by assumption) ?rest0zB
      case hy0zB => intro w hSw; (try dsimp only at hSw); first | (go_simp; done) | (go_simp; with_reducible rfl)
      try simp only [Act.put, List.getElem_toArray, List.getElem_cons_succ, List.getElem_cons_zero, List.setIfInBounds_toArray, List.set_cons_zero, List.set_cons_succ]
      refine wpAnyH_take (i := 1) (v := ?v1zB) rfl (by kernel_rfl) (by kernel_rfl) (by kernel_rfl) (fun _ _ _ h => h) (Or.inl ⟨by rfl, ?hy1zB⟩) (by assumption) ?rest1zB
      case hy1zB => intro w hSw; (try dsimp only at hSw); first | (go_simp; done) | (go_simp; with_reducible rfl)
      try simp only [Act.put, List.getElem_toArray, List.getElem_cons_succ, List.getElem_cons_zero, List.setIfInBounds_toArray, List.set_cons_zero, List.set_cons_succ]
      refine wpAnyH_take (i := 2) (v := ?v2zB) rfl (by kernel_rfl) (by kernel_rfl) (by kernel_rfl) (fun _ _ _ h => h) (Or.inl ⟨by rfl, ?hy2zB⟩) (by assumption) ?rest2zB
      case hy2zB => intro w hSw; (try dsimp only at hSw); first | (go_simp; done) | (go_simp; with_reducible rfl)
      try simp only [Act.put, List.getElem_toArray, List.getElem_cons_succ, List.getElem_cons_zero, List.setIfInBounds_toArray, List.set_cons_zero, List.set_cons_succ]
      refine wpAnyH_take (i := 3) (v := ?v3zB) rfl (by kernel_rfl) (by kernel_rfl) (by kernel_rfl) (fun _ _ _ h => h) (Or.inl ⟨by rfl, ?hy3zB⟩) (by assumption) ?rest3zB
      case hy3zB => intro w hSw; (try dsimp only at hSw); first | (go_simp; done) | (go_simp; with_reducible rfl)
      try simp only [Act.put, List.getElem_toArray, List.getElem_cons_succ, List.getElem_cons_zero, List.setIfInBounds_toArray, List.set_cons_zero, List.set_cons_succ]
      refine wpAnyH_take (i := 4) (v := ?v4zB) rfl (by kernel_rfl) (by kernel_rfl) (by kernel_rfl) (fun _ _ _ h => h) (Or.inl ⟨by rfl, ?hy4zB⟩) (by assumption) ?rest4zB
      case hy4zB => intro w hSw; (try dsimp only at hSw); first | (go_simp; done) | (go_simp; with_reducible rfl)
      try simp only [Act.put, List.getElem_toArray, List.getElem_cons_succ, List.getElem_cons_zero, List.setIfInBounds_toArray, List.set_cons_zero, List.set_cons_succ]
      refine wpAnyH_take (i := 5) (v := ?v5zB) rfl (by kernel_rfl) (by kernel_rfl) (by kernel_rfl) (fun _ _ _ h => h) (Or.inl ⟨by rfl, ?hy5zB⟩) (by assumption) ?rest5zB
      case hy5zB => intro w hSw; (try dsimp only at hSw); first | (go_simp; done) | (go_simp; with_reducible rfl)
      try simp only [Act.put, List.getElem_toArray, List.getElem_cons_succ, List.getElem_cons_zero, List.setIfInBounds_toArray, List.set_cons_zero, List.set_cons_succ]
      refine wpAnyH_take (i := 6) (v := ?v6zB) rfl (by kernel_rfl) (by kernel_rfl) (by kernel_rfl) (fun _ _ _ h => h) (Or.inl ⟨by rfl, ?hy6zB⟩) (by assumption) ?rest6zB
      case hy6zB => intro w hSw; (try dsimp only at hSw); first | (go_simp; done) | (go_simp; with_reducible rfl)
      try simp only [Act.put, List.getElem_toArray, List.getElem_cons_succ, List.getElem_cons_zero, List.setIfInBounds_toArray, List.set_cons_zero, List.set_cons_succ]
      refine wpAnyH_take (i := 7) (v := ?v7zB) rfl (by kernel_rfl) (by kernel_rfl) (by kernel_rfl) (fun _ _ _ h => h) (Or.inl ⟨by rfl, ?hy7zB⟩) (by assumption) ?rest7zB
      case hy7zB => intro w hSw; (try dsimp only at hSw); first | (go_simp; done) | (go_simp; with_reducible rfl)
      try simp only [Act.put, List.getElem_toArray, List.getElem_cons_succ, List.getElem_cons_zero, List.setIfInBounds_toArray, List.set_cons_zero, List.set_cons_succ]
      refine wpAnyH_take (i := 8) (v := ?v8zB) rfl (by kernel_rfl) (by kernel_rfl) (by kernel_rfl) (fun _ _ _ h => h) (Or.inl ⟨by rfl, ?hy8zB⟩) (by assumption) ?rest8zB
      case hy8zB => intro w hSw; (try dsimp only at hSw); first | (go_simp; done) | (go_simp; with_reducible rfl)
      try simp only [Act.put, List.getElem_toArray, List.getElem_cons_succ, List.getElem_cons_zero, List.setIfInBounds_toArray, List.set_cons_zero, List.set_cons_succ]
      refine wpAnyH_take (i := 9) (v := ?v9zB) rfl (by kernel_rfl) (by kernel_rfl) (by kernel_rfl) (fun _ _ _ h => h) (Or.inl ⟨by rfl, ?hy9zB⟩) (by assumption) ?rest9zB
      case hy9zB => intro w hSw; (try dsimp only at hSw); first | (go_simp; done) | (go_simp; with_reducible rfl)
      try simp only [Act.put, List.getElem_toArray, List.getElem_cons_succ, List.getElem_cons_zero, List.setIfInBounds_toArray, List.set_cons_zero, List.set_cons_succ]
      refine wpAnyH_take (i := 10) (v := ?v10zB) rfl (by kernel_rfl) (by kernel_rfl) (by kernel_rfl) (fun _ _ _ h => h) (Or.inl ⟨by rfl, ?hy10zB⟩) (by assumption) ?rest10zB
      case hy10zB => intro w hSw; (try dsimp only at hSw); first | (go_simp; done) | (go_simp; with_reducible rfl)
      try simp only [Act.put, List.getElem_toArray, List.getElem_cons_succ, List.getElem_cons_zero, List.setIfInBounds_toArray, List.set_cons_zero, List.set_cons_succ]
      refine wpAnyH_take (i := 11) (v := ?v11zB) rfl (by kernel_rfl) (by kernel_rfl) (by kernel_rfl) (fun _ _ _ h => h) (Or.inl ⟨by rfl, ?hy11zB⟩) (by assumption) ?rest11zB
      case hy11zB => intro w hSw; (try dsimp only at hSw); first | (go_simp; done) | (go_simp; with_reducible rfl)
      try simp only [Act.put, List.getElem_toArray, List.getElem_cons_succ, List.getElem_cons_zero, List.setIfInBounds_toArray, List.set_cons_zero, List.set_cons_succ]
      refine wpAnyH_take (i := 12) (v := ?v12zB) rfl (by kernel_rfl) (by kernel_rfl) (by kernel_rfl) (fun _ _ _ h => h) (Or.inl ⟨by rfl, ?hy12zB⟩) (by assumption) ?rest12zB
      case hy12zB => intro w hSw; (try dsimp only at hSw); first | (go_simp; done) | (go_simp; with_reducible rfl)
      try simp only [Act.put, List.getElem_toArray, List.getElem_cons_succ, List.getElem_cons_zero, List.setIfInBounds_toArray, List.set_cons_zero, List.set_cons_succ]
      refine wpAnyH_take (i := 13) (v := ?v13zB) rfl (by kernel_rfl) (by kernel_rfl) (by kernel_rfl) (fun _ _ _ h => h) (Or.inl ⟨by rfl, ?hy13zB⟩) (by assumption) ?rest13zB
      case hy13zB => intro w hSw; (try dsimp only at hSw); first | (go_simp; done) | (go_simp; with_reducible rfl)
      try simp only [Act.put, List.getElem_toArray, List.getElem_cons_succ, List.getElem_cons_zero, List.setIfInBounds_toArray, List.set_cons_zero, List.set_cons_succ]
      refine wpAnyH_take (i := 14) (v := ?v14zB) rfl (by kernel_rfl) (by kernel_rfl) (by kernel_rfl) (fun _ _ _ h => h) (Or.inl ⟨by rfl, ?hy14zB⟩) (by assumption) ?rest14zB
      case hy14zB => intro w hSw; (try dsimp only at hSw); first | (go_simp; done) | (go_simp; with_reducible rfl)
      try simp only [Act.put, List.getElem_toArray, List.getElem_cons_succ, List.getElem_cons_zero, List.setIfInBounds_toArray, List.set_cons_zero, List.set_cons_succ]
      refine wpAnyH_take (i := 15) (v := ?v15zB) rfl (by kernel_rfl) (by kernel_rfl) (by kernel_rfl) (fun _ _ _ h => h) (Or.inl ⟨by rfl, ?hy15zB⟩) (by assumption) ?rest15zB
      case hy15zB => intro w hSw; (try dsimp only at hSw); first | (go_simp; done) | (go_simp; with_reducible rfl)
      try simp only [Act.put, List.getElem_toArray, List.getElem_cons_succ, List.getElem_cons_zero, List.setIfInBounds_toArray, List.set_cons_zero, List.set_cons_succ]
      refine wpAnyH_ready (rs := [16]) (by kernel_rfl) (by simp) ?_
      refine AllReadyH.cons rfl (fun K hK => ?_) AllReadyH.nil
      go_simp
      refine (ldom_any _ _ _ _ _).mono ?_
      rintro e w5 ⟨rfl, hb5⟩
      rw [HL.out]
      go_wp2_with fail
      refine hK.out _ _ ?_ (fun hHeld2 => ?_)
      · try dsimp only
        (refine VdS.all ?_; (first | with_reducible assumption | with_reducible exact VdS.drew (by assumption) | with_reducible exact VdS.drew (And.right (by assumption)) | with_reducible exact VdS.next (by assumption) (by assumption) | with_reducible exact VdS.next (And.right (by assumption)) (by assumption)))
      clear hK K hHeld
      have hHeld := hHeld2; clear hHeld2
      try simp only [Act.put, List.getElem_toArray, List.getElem_cons_succ, List.getElem_cons_zero, List.setIfInBounds_toArray, List.set_cons_zero, List.set_cons_succ]
      refine wpAnyH_take (i := 17) (v := ?v17zB) rfl (by kernel_rfl) (by kernel_rfl) (by kernel_rfl) (fun _ _ _ h => h) (Or.inl ⟨by rfl, ?hy17zB⟩) (by assumption) ?rest17zB
      case hy17zB => intro w hSw; (try dsimp only at hSw); first | (go_simp; done) | (go_simp; with_reducible rfl)
      try simp only [Act.put, List.getElem_toArray, List.getElem_cons_succ, List.getElem_cons_zero, List.setIfInBounds_toArray, List.set_cons_zero, List.set_cons_succ]
      refine wpAnyH_take (i := 18) (v := ?v18zB) rfl (by kernel_rfl) (by kernel_rfl) (by kernel_rfl) (fun _ _ _ h => h) (Or.inl ⟨by rfl, ?hy18zB⟩) (by assumption) ?rest18zB
      case hy18zB => intro w hSw; (try dsimp only at hSw); first | (go_simp; done) | (go_simp; with_reducible rfl)
      try simp only [Act.put, List.getElem_toArray, List.getElem_cons_succ, List.getElem_cons_zero, List.setIfInBounds_toArray, List.set_cons_zero, List.set_cons_succ]
      refine wpAnyH_take (i := 19) (v := undef) rfl (by kernel_rfl) (by kernel_rfl) (by kernel_rfl) (fun _ _ _ h => h) (Or.inr ⟨by rfl, rfl⟩) (by assumption) ?rest19zB
      try simp only [Act.put, List.getElem_toArray, List.getElem_cons_succ, List.getElem_cons_zero, List.setIfInBounds_toArray, List.set_cons_zero, List.set_cons_succ]
      refine wpAnyH_take (i := 20) (v := undef) rfl (by kernel_rfl) (by kernel_rfl) (by kernel_rfl) (fun _ _ _ h => h) (Or.inr ⟨by rfl, rfl⟩) (by assumption) ?rest20zB
      try simp only [Act.put, List.getElem_toArray, List.getElem_cons_succ, List.getElem_cons_zero, List.setIfInBounds_toArray, List.set_cons_zero, List.set_cons_succ]
      refine wpAnyH_take (i := 21) (v := undef) rfl (by kernel_rfl) (by kernel_rfl) (by kernel_rfl) (fun _ _ _ h => h) (Or.inr ⟨by rfl, rfl⟩) (by assumption) ?rest21zB
      try simp only [Act.put, List.getElem_toArray, List.getElem_cons_succ, List.getElem_cons_zero, List.setIfInBounds_toArray, List.set_cons_zero, List.set_cons_succ]
      refine wpAnyH_take (i := 22) (v := undef) rfl (by kernel_rfl) (by kernel_rfl) (by kernel_rfl) (fun _ _ _ h => h) (Or.inr ⟨by rfl, rfl⟩) (by assumption) ?rest22zB
      try simp only [Act.put, List.getElem_toArray, List.getElem_cons_succ, List.getElem_cons_zero, List.setIfInBounds_toArray, List.set_cons_zero, List.set_cons_succ]
      refine wpAnyH_take (i := 23) (v := ?v23zB) rfl (by kernel_rfl) (by kernel_rfl) (by kernel_rfl) (fun _ _ _ h => h) (Or.inl ⟨by rfl, ?hy23zB⟩) (by assumption) ?rest23zB
      case hy23zB => intro w hSw; (try dsimp only at hSw); first | (go_simp; done) | (go_simp; with_reducible rfl)
      try simp only [Act.put, List.getElem_toArray, List.getElem_cons_succ, List.getElem_cons_zero, List.setIfInBounds_toArray, List.set_cons_zero, List.set_cons_succ]
      refine wpAnyH_take (i := 24) (v := ?v24zB) rfl (by kernel_rfl) (by kernel_rfl) (by kernel_rfl) (fun _ _ _ h => h) (Or.inl ⟨by rfl, ?hy24zB⟩) (by assumption) ?rest24zB
      case hy24zB => intro w hSw; (try dsimp only at hSw); first | (go_simp; done) | (go_simp; with_reducible rfl)
      try simp only [Act.put, List.getElem_toArray, List.getElem_cons_succ, List.getElem_cons_zero, List.setIfInBounds_toArray, List.set_cons_zero, List.set_cons_succ]
      refine wpAnyH_take (i := 25) (v := undef) rfl (by kernel_rfl) (by kernel_rfl) (by kernel_rfl) (fun _ _ _ h => h) (Or.inr ⟨by rfl, rfl⟩) (by assumption) ?rest25zB
      try simp only [Act.put, List.getElem_toArray, List.getElem_cons_succ, List.getElem_cons_zero, List.setIfInBounds_toArray, List.set_cons_zero, List.set_cons_succ]
      refine wpAnyH_take (i := 26) (v := undef) rfl (by kernel_rfl) (by kernel_rfl) (by kernel_rfl) (fun _ _ _ h => h) (Or.inr ⟨by rfl, rfl⟩) (by assumption) ?rest26zB
      try simp only [Act.put, List.getElem_toArray, List.getElem_cons_succ, List.getElem_cons_zero, List.setIfInBounds_toArray, List.set_cons_zero, List.set_cons_succ]
      refine wpAnyH_take (i := 27) (v := undef) rfl (by kernel_rfl) (by kernel_rfl) (by kernel_rfl) (fun _ _ _ h => h) (Or.inr ⟨by rfl, rfl⟩) (by assumption) ?rest27zB
      try simp only [Act.put, List.getElem_toArray, List.getElem_cons_succ, List.getElem_cons_zero, List.setIfInBounds_toArray, List.set_cons_zero, List.set_cons_succ]
      refine wpAnyH_take (i := 28) (v := undef) rfl (by kernel_rfl) (by kernel_rfl) (by kernel_rfl) (fun _ _ _ h => h) (Or.inr ⟨by rfl, rfl⟩) (by assumption) ?rest28zB
      try simp only [Act.put, List.getElem_toArray, List.getElem_cons_succ, List.getElem_cons_zero, List.setIfInBounds_toArray, List.set_cons_zero, List.set_cons_succ]
      refine wpAnyH_take (i := 29) (v := ?v29zB) rfl (by kernel_rfl) (by kernel_rfl) (by kernel_rfl) (fun _ _ _ h => h) (Or.inl ⟨by rfl, ?hy29zB⟩) (by assumption) ?rest29zB
      case hy29zB => intro w hSw; (try dsimp only at hSw); first | (go_simp; done) | (go_simp; with_reducible rfl)
      try simp only [Act.put, List.getElem_toArray, List.getElem_cons_succ, List.getElem_cons_zero, List.setIfInBounds_toArray, List.set_cons_zero, List.set_cons_succ]
      refine wpAnyH_take (i := 30) (v := ?v30zB) rfl (by kernel_rfl) (by kernel_rfl) (by kernel_rfl) (fun _ _ _ h => h) (Or.inl ⟨by rfl, ?hy30zB⟩) (by assumption) ?rest30zB
      case hy30zB => intro w hSw; (try dsimp only at hSw); first | (go_simp; done) | (go_simp; with_reducible rfl)
      try simp only [Act.put, List.getElem_toArray, List.getElem_cons_succ, List.getElem_cons_zero, List.setIfInBounds_toArray, List.set_cons_zero, List.set_cons_succ]
      refine wpAnyH_done (by kernel_rfl) ?_ _
      all_goals
        have HS9 := Lib.hid hHeld.2.below
        clear hHeld
        go_wp2_with fail
        go_ret
        exact ⟨by rw [HQ9.out]; rfl, by rw [hz]; exact Below.down HB.out HS9.out (by have := HB.out.size; omega)⟩
    | false =>
      cases G1 with
      | true =>
        have HQ9 := Lib.hid (show Q = true by rw [← HQ.out]; rfl)
        go_enter Tryz.func49, Tryz.ntmps49
        go_wp2_with fail
        generalize w.alloc (.cells #[.int .i64 c.fr, (.slice (some ⟨pb, pa, none⟩) n cap), vd, .int .i64 c.mj, vw, vg, .int .i64 c.se, .int .i64 c.qu, .int .i64 c.qt] 27) = w1 at *
        generalize hz : w.heap.size = y at *
        refine wp_region_held_drew (S := (fun w' => (w'.cell? ⟨y, 0, none⟩ = some (.int .i64 c.fr) ∧ w'.cell? ⟨y, 1, none⟩ = some (.slice (some ⟨pb, pa, none⟩) n cap) ∧ w'.cell? ⟨y, 2, none⟩ = some vd ∧ w'.cell? ⟨y, 3, none⟩ = some (.int .i64 c.mj) ∧ w'.cell? ⟨y, 4, none⟩ = some vw ∧ w'.cell? ⟨y, 5, none⟩ = some vg ∧ w'.cell? ⟨y, 6, none⟩ = some (.int .i64 c.se) ∧ w'.cell? ⟨y, 7, none⟩ = some (.int .i64 c.qu) ∧ w'.cell? ⟨y, 8, none⟩ = some (.int .i64 c.qt) ∧ w'.cell? ⟨pb, pa + i * 5, none⟩ = some (.int .i64 li) ∧ w'.cell? ⟨pb, pa + i * 5 + 1, none⟩ = some (.int .i64 ci) ∧ w'.cell? ⟨pb, pa + j * 5, none⟩ = some (.int .i64 lj) ∧ w'.cell? ⟨pb, pa + j * 5 + 1, none⟩ = some (.int .i64 cj)) ∧ VdS w1 c (.slice (some ⟨pb, pa, none⟩) n cap) vd vw vg y pb pa i j li ci lj cj w')) (by kernel_rfl) ?_ (fun hHeld => ?_)
        · try dsimp only
          (refine VdS.all ?_; (first | with_reducible assumption | with_reducible exact VdS.drew (by assumption) | with_reducible exact VdS.drew (And.right (by assumption)) | with_reducible exact VdS.next (by assumption) (by assumption) | with_reducible exact VdS.next (And.right (by assumption)) (by assumption)))
        refine wpAnyH_take (i := 0) (v := ?v0zC) rfl (by kernel_rfl) (by kernel_rfl) (by kernel_rfl) (fun _ _ _ h => h) (Or.inl ⟨by rfl, ?hy0zC⟩) (by assumption) ?rest0zC
        case hy0zC => intro w hSw; (try dsimp only at hSw); first | (go_simp; done) | (go_simp; with_reducible rfl)
        try simp only [Act.put, List.getElem_toArray, List.getElem_cons_succ, List.getElem_cons_zero, List.setIfInBounds_toArray, List.set_cons_zero, List.set_cons_succ]
        refine wpAnyH_take (i := 1) (v := ?v1zC) rfl (by kernel_rfl) (by kernel_rfl) (by kernel_rfl) (fun _ _ _ h => h) (Or.inl ⟨by rfl, ?hy1zC⟩) (by assumption) ?rest1zC
        case hy1zC => intro w hSw; (try dsimp only at hSw); first | (go_simp; done) | (go_simp; with_reducible rfl)
        try simp only [Act.put, List.getElem_toArray, List.getElem_cons_succ, List.getElem_cons_zero, List.setIfInBounds_toArray, List.set_cons_zero, List.set_cons_succ]
        refine wpAnyH_take (i := 2) (v := ?v2zC) rfl (by kernel_rfl) (by kernel_rfl) (by kernel_rfl) (fun _ _ _ h => h) (Or.inl ⟨by rfl, ?hy2zC⟩) (by assumption) ?rest2zC
        case hy2zC => intro w hSw; (try dsimp only at hSw); first | (go_simp; done) | (go_simp; with_reducible rfl)
        try simp only [Act.put, List.getElem_toArray, List.getElem_cons_succ, List.getElem_cons_zero, List.setIfInBounds_toArray, List.set_cons_zero, List.set_cons_succ]
        refine wpAnyH_take (i := 3) (v := ?v3zC) rfl (by kernel_rfl) (by kernel_rfl) (by kernel_rfl) (fun _ _ _ h => h) (Or.inl ⟨by rfl, ?hy3zC⟩) (by assumption) ?rest3zC
        case hy3zC => intro w hSw; (try dsimp only at hSw); first | (go_simp; done) | (go_simp; with_reducible rfl)
        try simp only [Act.put, List.getElem_toArray, List.getElem_cons_succ, List.getElem_cons_zero, List.setIfInBounds_toArray, List.set_cons_zero, List.set_cons_succ]
        refine wpAnyH_take (i := 4) (v := ?v4zC) rfl (by kernel_rfl) (by kernel_rfl) (by kernel_rfl) (fun _ _ _ h => h) (Or.inl ⟨by rfl, ?hy4zC⟩) (by assumption) ?rest4zC
        case hy4zC => intro w hSw; (try dsimp only at hSw); first | (go_simp; done) | (go_simp; with_reducible rfl)
        try simp only [Act.put, List.getElem_toArray, List.getElem_cons_succ, List.getElem_cons_zero, List.setIfInBounds_toArray, List.set_cons_zero, List.set_cons_succ]
        refine wpAnyH_take (i := 5) (v := ?v5zC) rfl (by kernel_rfl) (by kernel_rfl) (by kernel_rfl) (fun _ _ _ h => h) (Or.inl ⟨by rfl, ?hy5zC⟩) (by assumption) ?rest5zC
        case hy5zC => intro w hSw; (try dsimp only at hSw); first | (go_simp; done) | (go_simp; with_reducible rfl)
        try simp only [Act.put, List.getElem_toArray, List.getElem_cons_succ, List.getElem_cons_zero, List.setIfInBounds_toArray, List.set_cons_zero, List.set_cons_succ]
        refine wpAnyH_take (i := 6) (v := ?v6zC) rfl (by kernel_rfl) (by kernel_rfl) (by kernel_rfl) (fun _ _ _ h => h) (Or.inl ⟨by rfl, ?hy6zC⟩) (by assumption) ?rest6zC
        case hy6zC => intro w hSw; (try dsimp only at hSw); first | (go_simp; done) | (go_simp; with_reducible rfl)
        try simp only [Act.put, List.getElem_toArray, List.getElem_cons_succ, List.getElem_cons_zero, List.setIfInBounds_toArray, List.set_cons_zero, List.set_cons_succ]
        refine wpAnyH_take (i := 7) (v := ?v7zC) rfl (by kernel_rfl) (by kernel_rfl) (by kernel_rfl) (fun _ _ _ h => h) (Or.inl ⟨by rfl, ?hy7zC⟩) (by assumption) ?rest7zC
        case hy7zC => intro w hSw; (try dsimp only at hSw); first | (go_simp; done) | (go_simp; with_reducible rfl)
        try simp only [Act.put, List.getElem_toArray, List.getElem_cons_succ, List.getElem_cons_zero, List.setIfInBounds_toArray, List.set_cons_zero, List.set_cons_succ]
        refine wpAnyH_take (i := 8) (v := ?v8zC) rfl (by kernel_rfl) (by kernel_rfl) (by kernel_rfl) (fun _ _ _ h => h) (Or.inl ⟨by rfl, ?hy8zC⟩) (by assumption) ?rest8zC
        case hy8zC => intro w hSw; (try dsimp only at hSw); first | (go_simp; done) | (go_simp; with_reducible rfl)
        try simp only [Act.put, List.getElem_toArray, List.getElem_cons_succ, List.getElem_cons_zero, List.setIfInBounds_toArray, List.set_cons_zero, List.set_cons_succ]
        refine wpAnyH_take (i := 9) (v := ?v9zC) rfl (by kernel_rfl) (by kernel_rfl) (by kernel_rfl) (fun _ _ _ h => h) (Or.inl ⟨by rfl, ?hy9zC⟩) (by assumption) ?rest9zC
        case hy9zC => intro w hSw; (try dsimp only at hSw); first | (go_simp; done) | (go_simp; with_reducible rfl)
        try simp only [Act.put, List.getElem_toArray, List.getElem_cons_succ, List.getElem_cons_zero, List.setIfInBounds_toArray, List.set_cons_zero, List.set_cons_succ]
        refine wpAnyH_take (i := 10) (v := ?v10zC) rfl (by kernel_rfl) (by kernel_rfl) (by kernel_rfl) (fun _ _ _ h => h) (Or.inl ⟨by rfl, ?hy10zC⟩) (by assumption) ?rest10zC
        case hy10zC => intro w hSw; (try dsimp only at hSw); first | (go_simp; done) | (go_simp; with_reducible rfl)
        try simp only [Act.put, List.getElem_toArray, List.getElem_cons_succ, List.getElem_cons_zero, List.setIfInBounds_toArray, List.set_cons_zero, List.set_cons_succ]
        refine wpAnyH_take (i := 11) (v := ?v11zC) rfl (by kernel_rfl) (by kernel_rfl) (by kernel_rfl) (fun _ _ _ h => h) (Or.inl ⟨by rfl, ?hy11zC⟩) (by assumption) ?rest11zC
        case hy11zC => intro w hSw; (try dsimp only at hSw); first | (go_simp; done) | (go_simp; with_reducible rfl)
        try simp only [Act.put, List.getElem_toArray, List.getElem_cons_succ, List.getElem_cons_zero, List.setIfInBounds_toArray, List.set_cons_zero, List.set_cons_succ]
        refine wpAnyH_take (i := 12) (v := ?v12zC) rfl (by kernel_rfl) (by kernel_rfl) (by kernel_rfl) (fun _ _ _ h => h) (Or.inl ⟨by rfl, ?hy12zC⟩) (by assumption) ?rest12zC
        case hy12zC => intro w hSw; (try dsimp only at hSw); first | (go_simp; done) | (go_simp; with_reducible rfl)
        try simp only [Act.put, List.getElem_toArray, List.getElem_cons_succ, List.getElem_cons_zero, List.setIfInBounds_toArray, List.set_cons_zero, List.set_cons_succ]
        refine wpAnyH_take (i := 13) (v := ?v13zC) rfl (by kernel_rfl) (by kernel_rfl) (by kernel_rfl) (fun _ _ _ h => h) (Or.inl ⟨by rfl, ?hy13zC⟩) (by assumption) ?rest13zC
        case hy13zC => intro w hSw; (try dsimp only at hSw); first | (go_simp; done) | (go_simp; with_reducible rfl)
        try simp only [Act.put, List.getElem_toArray, List.getElem_cons_succ, List.getElem_cons_zero, List.setIfInBounds_toArray, List.set_cons_zero, List.set_cons_succ]
        refine wpAnyH_take (i := 14) (v := ?v14zC) rfl (by kernel_rfl) (by kernel_rfl) (by kernel_rfl) (fun _ _ _ h => h) (Or.inl ⟨by rfl, ?hy14zC⟩) (by assumption) ?rest14zC
        case hy14zC => intro w hSw; (try dsimp only at hSw); first | (go_simp; done) | (go_simp; with_reducible rfl)
        try simp only [Act.put, List.getElem_toArray, List.getElem_cons_succ, List.getElem_cons_zero, List.setIfInBounds_toArray, List.set_cons_zero, List.set_cons_succ]
        refine wpAnyH_take (i := 15) (v := ?v15zC) rfl (by kernel_rfl) (by kernel_rfl) (by kernel_rfl) (fun _ _ _ h => h) (Or.inl ⟨by rfl, ?hy15zC⟩) (by assumption) ?rest15zC
        case hy15zC => intro w hSw; (try dsimp only at hSw); first | (go_simp; done) | (go_simp; with_reducible rfl)
        try simp only [Act.put, List.getElem_toArray, List.getElem_cons_succ, List.getElem_cons_zero, List.setIfInBounds_toArray, List.set_cons_zero, List.set_cons_succ]
        refine wpAnyH_ready (rs := [16]) (by kernel_rfl) (by simp) ?_
        refine AllReadyH.cons rfl (fun K hK => ?_) AllReadyH.nil
        go_simp
        refine (ldom_any _ _ _ _ _).mono ?_
        rintro e w5 ⟨rfl, hb5⟩
        rw [HL.out]
        go_wp2_with fail
        refine hK.out _ _ ?_ (fun hHeld2 => ?_)
        · try dsimp only
          (refine VdS.all ?_; (first | with_reducible assumption | with_reducible exact VdS.drew (by assumption) | with_reducible exact VdS.drew (And.right (by assumption)) | with_reducible exact VdS.next (by assumption) (by assumption) | with_reducible exact VdS.next (And.right (by assumption)) (by assumption)))
        clear hK K hHeld
        have hHeld := hHeld2; clear hHeld2
        try simp only [Act.put, List.getElem_toArray, List.getElem_cons_succ, List.getElem_cons_zero, List.setIfInBounds_toArray, List.set_cons_zero, List.set_cons_succ]
        refine wpAnyH_take (i := 17) (v := ?v17zC) rfl (by kernel_rfl) (by kernel_rfl) (by kernel_rfl) (fun _ _ _ h => h) (Or.inl ⟨by rfl, ?hy17zC⟩) (by assumption) ?rest17zC
        case hy17zC => intro w hSw; (try dsimp only at hSw); first | (go_simp; done) | (go_simp; with_reducible rfl)
        try simp only [Act.put, List.getElem_toArray, List.getElem_cons_succ, List.getElem_cons_zero, List.setIfInBounds_toArray, List.set_cons_zero, List.set_cons_succ]
        refine wpAnyH_take (i := 18) (v := ?v18zC) rfl (by kernel_rfl) (by kernel_rfl) (by kernel_rfl) (fun _ _ _ h => h) (Or.inl ⟨by rfl, ?hy18zC⟩) (by assumption) ?rest18zC
        case hy18zC => intro w hSw; (try dsimp only at hSw); first | (go_simp; done) | (go_simp; with_reducible rfl)
        try simp only [Act.put, List.getElem_toArray, List.getElem_cons_succ, List.getElem_cons_zero, List.setIfInBounds_toArray, List.set_cons_zero, List.set_cons_succ]
        refine wpAnyH_take (i := 19) (v := ?v19zC) rfl (by kernel_rfl) (by kernel_rfl) (by kernel_rfl) (fun _ _ _ h => h) (Or.inl ⟨by rfl, ?hy19zC⟩) (by assumption) ?rest19zC
        case hy19zC => intro w hSw; (try dsimp only at hSw); first | (go_simp; done) | (go_simp; with_reducible rfl)
        try simp only [Act.put, List.getElem_toArray, List.getElem_cons_succ, List.getElem_cons_zero, List.setIfInBounds_toArray, List.set_cons_zero, List.set_cons_succ]
        refine wpAnyH_take (i := 20) (v := ?v20zC) rfl (by kernel_rfl) (by kernel_rfl) (by kernel_rfl) (fun _ _ _ h => h) (Or.inl ⟨by rfl, ?hy20zC⟩) (by assumption) ?rest20zC
        case hy20zC => intro w hSw; (try dsimp only at hSw); first | (go_simp; done) | (go_simp; with_reducible rfl)
        try simp only [Act.put, List.getElem_toArray, List.getElem_cons_succ, List.getElem_cons_zero, List.setIfInBounds_toArray, List.set_cons_zero, List.set_cons_succ]
        refine wpAnyH_take (i := 21) (v := ?v21zC) rfl (by kernel_rfl) (by kernel_rfl) (by kernel_rfl) (fun _ _ _ h => h) (Or.inl ⟨by rfl, ?hy21zC⟩) (by assumption) ?rest21zC
        case hy21zC => intro w hSw; (try dsimp only at hSw); first | (go_simp; done) | (go_simp; with_reducible rfl)
        try simp only [Act.put, List.getElem_toArray, List.getElem_cons_succ, List.getElem_cons_zero, List.setIfInBounds_toArray, List.set_cons_zero, List.set_cons_succ]
        refine wpAnyH_ready (rs := [22]) (by kernel_rfl) (by simp) ?_
        refine AllReadyH.cons rfl (fun K hK => ?_) AllReadyH.nil
        go_simp
        refine (vgrants_r (hHeld.2.ca) i (j : Int) (by rw [HN.out]; exact hi)).mono ?_
        rintro e w6 ⟨rfl, hb6⟩
        rw [HG1.out]
        go_wp2_with fail
        refine hK.out _ _ ?_ (fun hHeld2 => ?_)
        · try dsimp only
          (refine VdS.all ?_; (first | with_reducible assumption | with_reducible exact VdS.drew (by assumption) | with_reducible exact VdS.drew (And.right (by assumption)) | with_reducible exact VdS.next (by assumption) (by assumption) | with_reducible exact VdS.next (And.right (by assumption)) (by assumption)))
        clear hK K hHeld
        have hHeld := hHeld2; clear hHeld2
        try simp only [Act.put, List.getElem_toArray, List.getElem_cons_succ, List.getElem_cons_zero, List.setIfInBounds_toArray, List.set_cons_zero, List.set_cons_succ]
        refine wpAnyH_take (i := 23) (v := ?v23zC) rfl (by kernel_rfl) (by kernel_rfl) (by kernel_rfl) (fun _ _ _ h => h) (Or.inl ⟨by rfl, ?hy23zC⟩) (by assumption) ?rest23zC
        case hy23zC => intro w hSw; (try dsimp only at hSw); first | (go_simp; done) | (go_simp; with_reducible rfl)
        try simp only [Act.put, List.getElem_toArray, List.getElem_cons_succ, List.getElem_cons_zero, List.setIfInBounds_toArray, List.set_cons_zero, List.set_cons_succ]
        refine wpAnyH_take (i := 24) (v := ?v24zC) rfl (by kernel_rfl) (by kernel_rfl) (by kernel_rfl) (fun _ _ _ h => h) (Or.inl ⟨by rfl, ?hy24zC⟩) (by assumption) ?rest24zC
        case hy24zC => intro w hSw; (try dsimp only at hSw); first | (go_simp; done) | (go_simp; with_reducible rfl)
        try simp only [Act.put, List.getElem_toArray, List.getElem_cons_succ, List.getElem_cons_zero, List.setIfInBounds_toArray, List.set_cons_zero, List.set_cons_succ]
        refine wpAnyH_take (i := 25) (v := undef) rfl (by kernel_rfl) (by kernel_rfl) (by kernel_rfl) (fun _ _ _ h => h) (Or.inr ⟨by rfl, rfl⟩) (by assumption) ?rest25zC
        try simp only [Act.put, List.getElem_toArray, List.getElem_cons_succ, List.getElem_cons_zero, List.setIfInBounds_toArray, List.set_cons_zero, List.set_cons_succ]
        refine wpAnyH_take (i := 26) (v := undef) rfl (by kernel_rfl) (by kernel_rfl) (by kernel_rfl) (fun _ _ _ h => h) (Or.inr ⟨by rfl, rfl⟩) (by assumption) ?rest26zC
        try simp only [Act.put, List.getElem_toArray, List.getElem_cons_succ, List.getElem_cons_zero, List.setIfInBounds_toArray, List.set_cons_zero, List.set_cons_succ]
        refine wpAnyH_take (i := 27) (v := undef) rfl (by kernel_rfl) (by kernel_rfl) (by kernel_rfl) (fun _ _ _ h => h) (Or.inr ⟨by rfl, rfl⟩) (by assumption) ?rest27zC
        try simp only [Act.put, List.getElem_toArray, List.getElem_cons_succ, List.getElem_cons_zero, List.setIfInBounds_toArray, List.set_cons_zero, List.set_cons_succ]
        refine wpAnyH_take (i := 28) (v := undef) rfl (by kernel_rfl) (by kernel_rfl) (by kernel_rfl) (fun _ _ _ h => h) (Or.inr ⟨by rfl, rfl⟩) (by assumption) ?rest28zC
        try simp only [Act.put, List.getElem_toArray, List.getElem_cons_succ, List.getElem_cons_zero, List.setIfInBounds_toArray, List.set_cons_zero, List.set_cons_succ]
        refine wpAnyH_take (i := 29) (v := ?v29zC) rfl (by kernel_rfl) (by kernel_rfl) (by kernel_rfl) (fun _ _ _ h => h) (Or.inl ⟨by rfl, ?hy29zC⟩) (by assumption) ?rest29zC
        case hy29zC => intro w hSw; (try dsimp only at hSw); first | (go_simp; done) | (go_simp; with_reducible rfl)
        try simp only [Act.put, List.getElem_toArray, List.getElem_cons_succ, List.getElem_cons_zero, List.setIfInBounds_toArray, List.set_cons_zero, List.set_cons_succ]
        refine wpAnyH_take (i := 30) (v := ?v30zC) rfl (by kernel_rfl) (by kernel_rfl) (by kernel_rfl) (fun _ _ _ h => h) (Or.inl ⟨by rfl, ?hy30zC⟩) (by assumption) ?rest30zC
        case hy30zC => intro w hSw; (try dsimp only at hSw); first | (go_simp; done) | (go_simp; with_reducible rfl)
        try simp only [Act.put, List.getElem_toArray, List.getElem_cons_succ, List.getElem_cons_zero, List.setIfInBounds_toArray, List.set_cons_zero, List.set_cons_succ]
        refine wpAnyH_done (by kernel_rfl) ?_ _
        all_goals
          have HS9 := Lib.hid hHeld.2.below
          clear hHeld
          go_wp2_with fail
          go_ret
          exact ⟨by rw [HQ9.out]; rfl, by rw [hz]; exact Below.down HB.out HS9.out (by have := HB.out.size; omega)⟩
      | false =>
        have HQ9 := Lib.hid (show Q = G2 by rw [← HQ.out]; rfl)
        go_enter Tryz.func49, Tryz.ntmps49
        go_wp2_with fail
        generalize w.alloc (.cells #[.int .i64 c.fr, (.slice (some ⟨pb, pa, none⟩) n cap), vd, .int .i64 c.mj, vw, vg, .int .i64 c.se, .int .i64 c.qu, .int .i64 c.qt] 27) = w1 at *
        generalize hz : w.heap.size = y at *
        refine wp_region_held_drew (S := (fun w' => (w'.cell? ⟨y, 0, none⟩ = some (.int .i64 c.fr) ∧ w'.cell? ⟨y, 1, none⟩ = some (.slice (some ⟨pb, pa, none⟩) n cap) ∧ w'.cell? ⟨y, 2, none⟩ = some vd ∧ w'.cell? ⟨y, 3, none⟩ = some (.int .i64 c.mj) ∧ w'.cell? ⟨y, 4, none⟩ = some vw ∧ w'.cell? ⟨y, 5, none⟩ = some vg ∧ w'.cell? ⟨y, 6, none⟩ = some (.int .i64 c.se) ∧ w'.cell? ⟨y, 7, none⟩ = some (.int .i64 c.qu) ∧ w'.cell? ⟨y, 8, none⟩ = some (.int .i64 c.qt) ∧ w'.cell? ⟨pb, pa + i * 5, none⟩ = some (.int .i64 li) ∧ w'.cell? ⟨pb, pa + i * 5 + 1, none⟩ = some (.int .i64 ci) ∧ w'.cell? ⟨pb, pa + j * 5, none⟩ = some (.int .i64 lj) ∧ w'.cell? ⟨pb, pa + j * 5 + 1, none⟩ = some (.int .i64 cj)) ∧ VdS w1 c (.slice (some ⟨pb, pa, none⟩) n cap) vd vw vg y pb pa i j li ci lj cj w')) (by kernel_rfl) ?_ (fun hHeld => ?_)
        · try dsimp only
          (refine VdS.all ?_; (first | with_reducible assumption | with_reducible exact VdS.drew (by assumption) | with_reducible exact VdS.drew (And.right (by assumption)) | with_reducible exact VdS.next (by assumption) (by assumption) | with_reducible exact VdS.next (And.right (by assumption)) (by assumption)))
        refine wpAnyH_take (i := 0) (v := ?v0zD) rfl (by kernel_rfl) (by kernel_rfl) (by kernel_rfl) (fun _ _ _ h => h) (Or.inl ⟨by rfl, ?hy0zD⟩) (by assumption) ?rest0zD
        case hy0zD => intro w hSw; (try dsimp only at hSw); first | (go_simp; done) | (go_simp; with_reducible rfl)
        try simp only [Act.put, List.getElem_toArray, List.getElem_cons_succ, List.getElem_cons_zero, List.setIfInBounds_toArray, List.set_cons_zero, List.set_cons_succ]
        refine wpAnyH_take (i := 1) (v := ?v1zD) rfl (by kernel_rfl) (by kernel_rfl) (by kernel_rfl) (fun _ _ _ h => h) (Or.inl ⟨by rfl, ?hy1zD⟩) (by assumption) ?rest1zD
        case hy1zD => intro w hSw; (try dsimp only at hSw); first | (go_simp; done) | (go_simp; with_reducible rfl)
        try simp only [Act.put, List.getElem_toArray, List.getElem_cons_succ, List.getElem_cons_zero, List.setIfInBounds_toArray, List.set_cons_zero, List.set_cons_succ]
        refine wpAnyH_take (i := 2) (v := ?v2zD) rfl (by kernel_rfl) (by kernel_rfl) (by kernel_rfl) (fun _ _ _ h => h) (Or.inl ⟨by rfl, ?hy2zD⟩) (by assumption) ?rest2zD
        case hy2zD => intro w hSw; (try dsimp only at hSw); first | (go_simp; done) | (go_simp; with_reducible rfl)
        try simp only [Act.put, List.getElem_toArray, List.getElem_cons_succ, List.getElem_cons_zero, List.setIfInBounds_toArray, List.set_cons_zero, List.set_cons_succ]
        refine wpAnyH_take (i := 3) (v := ?v3zD) rfl (by kernel_rfl) (by kernel_rfl) (by kernel_rfl) (fun _ _ _ h => h) (Or.inl ⟨by rfl, ?hy3zD⟩) (by assumption) ?rest3zD
        case hy3zD => intro w hSw; (try dsimp only at hSw); first | (go_simp; done) | (go_simp; with_reducible rfl)
        try simp only [Act.put, List.getElem_toArray, List.getElem_cons_succ, List.getElem_cons_zero, List.setIfInBounds_toArray, List.set_cons_zero, List.set_cons_succ]
        refine wpAnyH_take (i := 4) (v := ?v4zD) rfl (by kernel_rfl) (by kernel_rfl) (by kernel_rfl) (fun _ _ _ h => h) (Or.inl ⟨by rfl, ?hy4zD⟩) (by assumption) ?rest4zD
        case hy4zD => intro w hSw; (try dsimp only at hSw); first | (go_simp; done) | (go_simp; with_reducible rfl)
        try simp only [Act.put, List.getElem_toArray, List.getElem_cons_succ, List.getElem_cons_zero, List.setIfInBounds_toArray, List.set_cons_zero, List.set_cons_succ]
        refine wpAnyH_take (i := 5) (v := ?v5zD) rfl (by kernel_rfl) (by kernel_rfl) (by kernel_rfl) (fun _ _ _ h => h) (Or.inl ⟨by rfl, ?hy5zD⟩) (by assumption) ?rest5zD
        case hy5zD => intro w hSw; (try dsimp only at hSw); first | (go_simp; done) | (go_simp; with_reducible rfl)
        try simp only [Act.put, List.getElem_toArray, List.getElem_cons_succ, List.getElem_cons_zero, List.setIfInBounds_toArray, List.set_cons_zero, List.set_cons_succ]
        refine wpAnyH_take (i := 6) (v := ?v6zD) rfl (by kernel_rfl) (by kernel_rfl) (by kernel_rfl) (fun _ _ _ h => h) (Or.inl ⟨by rfl, ?hy6zD⟩) (by assumption) ?rest6zD
        case hy6zD => intro w hSw; (try dsimp only at hSw); first | (go_simp; done) | (go_simp; with_reducible rfl)
        try simp only [Act.put, List.getElem_toArray, List.getElem_cons_succ, List.getElem_cons_zero, List.setIfInBounds_toArray, List.set_cons_zero, List.set_cons_succ]
        refine wpAnyH_take (i := 7) (v := ?v7zD) rfl (by kernel_rfl) (by kernel_rfl) (by kernel_rfl) (fun _ _ _ h => h) (Or.inl ⟨by rfl, ?hy7zD⟩) (by assumption) ?rest7zD
        case hy7zD => intro w hSw; (try dsimp only at hSw); first | (go_simp; done) | (go_simp; with_reducible rfl)
        try simp only [Act.put, List.getElem_toArray, List.getElem_cons_succ, List.getElem_cons_zero, List.setIfInBounds_toArray, List.set_cons_zero, List.set_cons_succ]
        refine wpAnyH_take (i := 8) (v := ?v8zD) rfl (by kernel_rfl) (by kernel_rfl) (by kernel_rfl) (fun _ _ _ h => h) (Or.inl ⟨by rfl, ?hy8zD⟩) (by assumption) ?rest8zD
        case hy8zD => intro w hSw; (try dsimp only at hSw); first | (go_simp; done) | (go_simp; with_reducible rfl)
        try simp only [Act.put, List.getElem_toArray, List.getElem_cons_succ, List.getElem_cons_zero, List.setIfInBounds_toArray, List.set_cons_zero, List.set_cons_succ]
        refine wpAnyH_take (i := 9) (v := ?v9zD) rfl (by kernel_rfl) (by kernel_rfl) (by kernel_rfl) (fun _ _ _ h => h) (Or.inl ⟨by rfl, ?hy9zD⟩) (by assumption) ?rest9zD
        case hy9zD => intro w hSw; (try dsimp only at hSw); first | (go_simp; done) | (go_simp; with_reducible rfl)
        try simp only [Act.put, List.getElem_toArray, List.getElem_cons_succ, List.getElem_cons_zero, List.setIfInBounds_toArray, List.set_cons_zero, List.set_cons_succ]
        refine wpAnyH_take (i := 10) (v := ?v10zD) rfl (by kernel_rfl) (by kernel_rfl) (by kernel_rfl) (fun _ _ _ h => h) (Or.inl ⟨by rfl, ?hy10zD⟩) (by assumption) ?rest10zD
        case hy10zD => intro w hSw; (try dsimp only at hSw); first | (go_simp; done) | (go_simp; with_reducible rfl)
        try simp only [Act.put, List.getElem_toArray, List.getElem_cons_succ, List.getElem_cons_zero, List.setIfInBounds_toArray, List.set_cons_zero, List.set_cons_succ]
        refine wpAnyH_take (i := 11) (v := ?v11zD) rfl (by kernel_rfl) (by kernel_rfl) (by kernel_rfl) (fun _ _ _ h => h) (Or.inl ⟨by rfl, ?hy11zD⟩) (by assumption) ?rest11zD
        case hy11zD => intro w hSw; (try dsimp only at hSw); first | (go_simp; done) | (go_simp; with_reducible rfl)
        try simp only [Act.put, List.getElem_toArray, List.getElem_cons_succ, List.getElem_cons_zero, List.setIfInBounds_toArray, List.set_cons_zero, List.set_cons_succ]
        refine wpAnyH_take (i := 12) (v := ?v12zD) rfl (by kernel_rfl) (by kernel_rfl) (by kernel_rfl) (fun _ _ _ h => h) (Or.inl ⟨by rfl, ?hy12zD⟩) (by assumption) ?rest12zD
        case hy12zD => intro w hSw; (try dsimp only at hSw); first | (go_simp; done) | (go_simp; with_reducible rfl)
        try simp only [Act.put, List.getElem_toArray, List.getElem_cons_succ, List.getElem_cons_zero, List.setIfInBounds_toArray, List.set_cons_zero, List.set_cons_succ]
        refine wpAnyH_take (i := 13) (v := ?v13zD) rfl (by kernel_rfl) (by kernel_rfl) (by kernel_rfl) (fun _ _ _ h => h) (Or.inl ⟨by rfl, ?hy13zD⟩) (by assumption) ?rest13zD
        case hy13zD => intro w hSw; (try dsimp only at hSw); first | (go_simp; done) | (go_simp; with_reducible rfl)
        try simp only [Act.put, List.getElem_toArray, List.getElem_cons_succ, List.getElem_cons_zero, List.setIfInBounds_toArray, List.set_cons_zero, List.set_cons_succ]
        refine wpAnyH_take (i := 14) (v := ?v14zD) rfl (by kernel_rfl) (by kernel_rfl) (by kernel_rfl) (fun _ _ _ h => h) (Or.inl ⟨by rfl, ?hy14zD⟩) (by assumption) ?rest14zD
        case hy14zD => intro w hSw; (try dsimp only at hSw); first | (go_simp; done) | (go_simp; with_reducible rfl)
        try simp only [Act.put, List.getElem_toArray, List.getElem_cons_succ, List.getElem_cons_zero, List.setIfInBounds_toArray, List.set_cons_zero, List.set_cons_succ]
        refine wpAnyH_take (i := 15) (v := ?v15zD) rfl (by kernel_rfl) (by kernel_rfl) (by kernel_rfl) (fun _ _ _ h => h) (Or.inl ⟨by rfl, ?hy15zD⟩) (by assumption) ?rest15zD
        case hy15zD => intro w hSw; (try dsimp only at hSw); first | (go_simp; done) | (go_simp; with_reducible rfl)
        try simp only [Act.put, List.getElem_toArray, List.getElem_cons_succ, List.getElem_cons_zero, List.setIfInBounds_toArray, List.set_cons_zero, List.set_cons_succ]
        refine wpAnyH_ready (rs := [16]) (by kernel_rfl) (by simp) ?_
        refine AllReadyH.cons rfl (fun K hK => ?_) AllReadyH.nil
        go_simp
        refine (ldom_any _ _ _ _ _).mono ?_
        rintro e w5 ⟨rfl, hb5⟩
        rw [HL.out]
        go_wp2_with fail
        refine hK.out _ _ ?_ (fun hHeld2 => ?_)
        · try dsimp only
          (refine VdS.all ?_; (first | with_reducible assumption | with_reducible exact VdS.drew (by assumption) | with_reducible exact VdS.drew (And.right (by assumption)) | with_reducible exact VdS.next (by assumption) (by assumption) | with_reducible exact VdS.next (And.right (by assumption)) (by assumption)))
        clear hK K hHeld
        have hHeld := hHeld2; clear hHeld2
        try simp only [Act.put, List.getElem_toArray, List.getElem_cons_succ, List.getElem_cons_zero, List.setIfInBounds_toArray, List.set_cons_zero, List.set_cons_succ]
        refine wpAnyH_take (i := 17) (v := ?v17zD) rfl (by kernel_rfl) (by kernel_rfl) (by kernel_rfl) (fun _ _ _ h => h) (Or.inl ⟨by rfl, ?hy17zD⟩) (by assumption) ?rest17zD
        case hy17zD => intro w hSw; (try dsimp only at hSw); first | (go_simp; done) | (go_simp; with_reducible rfl)
        try simp only [Act.put, List.getElem_toArray, List.getElem_cons_succ, List.getElem_cons_zero, List.setIfInBounds_toArray, List.set_cons_zero, List.set_cons_succ]
        refine wpAnyH_take (i := 18) (v := ?v18zD) rfl (by kernel_rfl) (by kernel_rfl) (by kernel_rfl) (fun _ _ _ h => h) (Or.inl ⟨by rfl, ?hy18zD⟩) (by assumption) ?rest18zD
        case hy18zD => intro w hSw; (try dsimp only at hSw); first | (go_simp; done) | (go_simp; with_reducible rfl)
        try simp only [Act.put, List.getElem_toArray, List.getElem_cons_succ, List.getElem_cons_zero, List.setIfInBounds_toArray, List.set_cons_zero, List.set_cons_succ]
        refine wpAnyH_take (i := 19) (v := ?v19zD) rfl (by kernel_rfl) (by kernel_rfl) (by kernel_rfl) (fun _ _ _ h => h) (Or.inl ⟨by rfl, ?hy19zD⟩) (by assumption) ?rest19zD
        case hy19zD => intro w hSw; (try dsimp only at hSw); first | (go_simp; done) | (go_simp; with_reducible rfl)
        try simp only [Act.put, List.getElem_toArray, List.getElem_cons_succ, List.getElem_cons_zero, List.setIfInBounds_toArray, List.set_cons_zero, List.set_cons_succ]
        refine wpAnyH_take (i := 20) (v := ?v20zD) rfl (by kernel_rfl) (by kernel_rfl) (by kernel_rfl) (fun _ _ _ h => h) (Or.inl ⟨by rfl, ?hy20zD⟩) (by assumption) ?rest20zD
        case hy20zD => intro w hSw; (try dsimp only at hSw); first | (go_simp; done) | (go_simp; with_reducible rfl)
        try simp only [Act.put, List.getElem_toArray, List.getElem_cons_succ, List.getElem_cons_zero, List.setIfInBounds_toArray, List.set_cons_zero, List.set_cons_succ]
        refine wpAnyH_take (i := 21) (v := ?v21zD) rfl (by kernel_rfl) (by kernel_rfl) (by kernel_rfl) (fun _ _ _ h => h) (Or.inl ⟨by rfl, ?hy21zD⟩) (by assumption) ?rest21zD
        case hy21zD => intro w hSw; (try dsimp only at hSw); first | (go_simp; done) | (go_simp; with_reducible rfl)
        try simp only [Act.put, List.getElem_toArray, List.getElem_cons_succ, List.getElem_cons_zero, List.setIfInBounds_toArray, List.set_cons_zero, List.set_cons_succ]
        refine wpAnyH_ready (rs := [22]) (by kernel_rfl) (by simp) ?_
        refine AllReadyH.cons rfl (fun K hK => ?_) AllReadyH.nil
        go_simp
        refine (vgrants_r (hHeld.2.ca) i (j : Int) (by rw [HN.out]; exact hi)).mono ?_
        rintro e w6 ⟨rfl, hb6⟩
        rw [HG1.out]
        go_wp2_with fail
        refine hK.out _ _ ?_ (fun hHeld2 => ?_)
        · try dsimp only
          (refine VdS.all ?_; (first | with_reducible assumption | with_reducible exact VdS.drew (by assumption) | with_reducible exact VdS.drew (And.right (by assumption)) | with_reducible exact VdS.next (by assumption) (by assumption) | with_reducible exact VdS.next (And.right (by assumption)) (by assumption)))
        clear hK K hHeld
        have hHeld := hHeld2; clear hHeld2
        try simp only [Act.put, List.getElem_toArray, List.getElem_cons_succ, List.getElem_cons_zero, List.setIfInBounds_toArray, List.set_cons_zero, List.set_cons_succ]
        refine wpAnyH_take (i := 23) (v := ?v23zD) rfl (by kernel_rfl) (by kernel_rfl) (by kernel_rfl) (fun _ _ _ h => h) (Or.inl ⟨by rfl, ?hy23zD⟩) (by assumption) ?rest23zD
        case hy23zD => intro w hSw; (try dsimp only at hSw); first | (go_simp; done) | (go_simp; with_reducible rfl)
        try simp only [Act.put, List.getElem_toArray, List.getElem_cons_succ, List.getElem_cons_zero, List.setIfInBounds_toArray, List.set_cons_zero, List.set_cons_succ]
        refine wpAnyH_take (i := 24) (v := ?v24zD) rfl (by kernel_rfl) (by kernel_rfl) (by kernel_rfl) (fun _ _ _ h => h) (Or.inl ⟨by rfl, ?hy24zD⟩) (by assumption) ?rest24zD
        case hy24zD => intro w hSw; (try dsimp only at hSw); first | (go_simp; done) | (go_simp; with_reducible rfl)
        try simp only [Act.put, List.getElem_toArray, List.getElem_cons_succ, List.getElem_cons_zero, List.setIfInBounds_toArray, List.set_cons_zero, List.set_cons_succ]
        refine wpAnyH_take (i := 25) (v := ?v25zD) rfl (by kernel_rfl) (by kernel_rfl) (by kernel_rfl) (fun _ _ _ h => h) (Or.inl ⟨by rfl, ?hy25zD⟩) (by assumption) ?rest25zD
        case hy25zD => intro w hSw; (try dsimp only at hSw); first | (go_simp; done) | (go_simp; with_reducible rfl)
        try simp only [Act.put, List.getElem_toArray, List.getElem_cons_succ, List.getElem_cons_zero, List.setIfInBounds_toArray, List.set_cons_zero, List.set_cons_succ]
        refine wpAnyH_take (i := 26) (v := ?v26zD) rfl (by kernel_rfl) (by kernel_rfl) (by kernel_rfl) (fun _ _ _ h => h) (Or.inl ⟨by rfl, ?hy26zD⟩) (by assumption) ?rest26zD
        case hy26zD => intro w hSw; (try dsimp only at hSw); first | (go_simp; done) | (go_simp; with_reducible rfl)
        try simp only [Act.put, List.getElem_toArray, List.getElem_cons_succ, List.getElem_cons_zero, List.setIfInBounds_toArray, List.set_cons_zero, List.set_cons_succ]
        refine wpAnyH_take (i := 27) (v := ?v27zD) rfl (by kernel_rfl) (by kernel_rfl) (by kernel_rfl) (fun _ _ _ h => h) (Or.inl ⟨by rfl, ?hy27zD⟩) (by assumption) ?rest27zD
        case hy27zD => intro w hSw; (try dsimp only at hSw); first | (go_simp; done) | (go_simp; with_reducible rfl)
        try simp only [Act.put, List.getElem_toArray, List.getElem_cons_succ, List.getElem_cons_zero, List.setIfInBounds_toArray, List.set_cons_zero, List.set_cons_succ]
        refine wpAnyH_ready (rs := [28]) (by kernel_rfl) (by simp) ?_
        refine AllReadyH.cons rfl (fun K hK => ?_) AllReadyH.nil
        go_simp
        refine (vgrants_w (hHeld.2.ca) j (i : Int) (by rw [HN.out]; exact hj)).mono ?_
        rintro e w7 ⟨rfl, hb7⟩
        rw [HG2.out]
        go_wp2_with fail
        refine hK.out _ _ ?_ (fun hHeld2 => ?_)
        · try dsimp only
          (refine VdS.all ?_; (first | with_reducible assumption | with_reducible exact VdS.drew (by assumption) | with_reducible exact VdS.drew (And.right (by assumption)) | with_reducible exact VdS.next (by assumption) (by assumption) | with_reducible exact VdS.next (And.right (by assumption)) (by assumption)))
        clear hK K hHeld
        have hHeld := hHeld2; clear hHeld2
        try simp only [Act.put, List.getElem_toArray, List.getElem_cons_succ, List.getElem_cons_zero, List.setIfInBounds_toArray, List.set_cons_zero, List.set_cons_succ]
        refine wpAnyH_take (i := 29) (v := ?v29zD) rfl (by kernel_rfl) (by kernel_rfl) (by kernel_rfl) (fun _ _ _ h => h) (Or.inl ⟨by rfl, ?hy29zD⟩) (by assumption) ?rest29zD
        case hy29zD => intro w hSw; (try dsimp only at hSw); first | (go_simp; done) | (go_simp; with_reducible rfl)
        try simp only [Act.put, List.getElem_toArray, List.getElem_cons_succ, List.getElem_cons_zero, List.setIfInBounds_toArray, List.set_cons_zero, List.set_cons_succ]
        refine wpAnyH_take (i := 30) (v := ?v30zD) rfl (by kernel_rfl) (by kernel_rfl) (by kernel_rfl) (fun _ _ _ h => h) (Or.inl ⟨by rfl, ?hy30zD⟩) (by assumption) ?rest30zD
        case hy30zD => intro w hSw; (try dsimp only at hSw); first | (go_simp; done) | (go_simp; with_reducible rfl)
        try simp only [Act.put, List.getElem_toArray, List.getElem_cons_succ, List.getElem_cons_zero, List.setIfInBounds_toArray, List.set_cons_zero, List.set_cons_succ]
        refine wpAnyH_done (by kernel_rfl) ?_ _
        all_goals
          have HS9 := Lib.hid hHeld.2.below
          clear hHeld
          go_wp2_with fail
          go_ret
          exact ⟨by rw [HQ9.out]; rfl, by rw [hz]; exact Below.down HB.out HS9.out (by have := HB.out.size; omega)⟩
end Go.Proofs.YtkaalinoiilmoaaGreat
namespace Go.Proofs.YtkaalinoiilmoaaGreat
open Go.RowKit
set_option linter.unusedVariables false
set_option linter.unusedSimpArgs false
set_option maxRecDepth 100000
def unlB (F : Int) : (Nat → Bool) → List Int → Bool
  | _, [] => true
  | U, x :: l => (decide (0 ≤ x ∧ x < F) && !U x.toNat) && unlB F (bitF U x.toNat true) l
def allF (c : Cf) : List Int := c.ps.flatMap (·.fr) ++ c.ds.flatMap (·.po)
def fr64 (p : Pa) : Bool := btw 1 64 p.fr.length
def rfB (c : Cf) : Bool := c.ps.all fr64 && (c.ds.all (dvB_Cf0 c.ps.length) && unlB c.fr noB (allF c))
def rpB (c : Cf) (i : Nat) : Bool := hasW c.ws i && lB (c.ps.getD i paD).lv (c.ps.getD i paD).ct
def rcMay (c : Cf) : Bool := (((((((frB_Cf0 c && btw 1 4 c.ps.length) && btw 1 4 c.ds.length) && rfB c) && gsB c) && mayW c.ws c.mj c.ps.length) && shB c) && (List.range c.ps.length).all (rpB c)) && (quB c && qtB c)
def usd (T : Nat → Int) : Nat → Bool := fun i => decide (T i ≠ -1)
theorem usd_upd (T : Nat → Int) (k : Nat) (o : Int) (ho : o ≠ -1) : usd (updT T k o) = bitF (usd T) k true := by
  funext i
  unfold usd updT bitF
  by_cases h : i = k
  · rw [if_pos h, if_pos h]; exact decide_eq_true ho
  · rw [if_neg h, if_neg h]
theorem giB_unl {F o : Int} (ho : o ≠ -1) (m : List Int) : ∀ (l : List Int) (T : Nat → Int), (giB F o T l && unlB F (usd (giT o T l)) m) = unlB F (usd T) (l ++ m) := by
  intro l
  induction l with
  | nil => intro T; simp [giB, giT]
  | cons x l ih =>
    intro T
    simp only [giB, giT, List.cons_append, unlB]
    rw [Bool.and_assoc, ih, usd_upd _ _ _ ho]
    have e : fgB F T x = (decide (0 ≤ x ∧ x < F) && !usd T x.toNat) := by
      unfold fgB usd
      congr 1
      by_cases h : T x.toNat = -1
      · simp [h]
      · simp [h]
    rw [e]
theorem gpB_unl {F : Int} (m : List Int) : ∀ (l : List Pa) (i : Int) (T : Nat → Int), 0 ≤ i → (gpB F i T l && unlB F (usd (gpT i T l)) m) = unlB F (usd T) (l.flatMap (·.fr) ++ m) := by
  intro l
  induction l with
  | nil => intro i T _; simp [gpB, gpT]
  | cons p l ih =>
    intro i T hi
    simp only [gpB, gpT, List.flatMap_cons]
    rw [Bool.and_assoc, ih _ _ (by omega), giB_unl (by omega), List.append_assoc]
theorem gdB_unl {F : Int} : ∀ (l : List De) (T : Nat → Int), gdB F T l = unlB F (usd T) (l.flatMap (·.po)) := by
  intro l
  induction l with
  | nil => intro T; simp [gdB, unlB]
  | cons d l ih =>
    intro T
    simp only [gdB, List.flatMap_cons]
    rw [ih, giB_unl (by omega)]
theorem unB_unl (c : Cf) : unB c = unlB c.fr noB (allF c) := by
  unfold unB allF
  have e : usd freeT = noB := by funext i; rfl
  rw [gdB_unl, gpB_unl _ _ _ _ (by omega), e]
def cntU (T : Nat → Int) : Nat → Nat
  | 0 => 0
  | k + 1 => cntU T k + if T k = -1 then 0 else 1
theorem btw_iff0 {lo hi n : Int} : btw lo hi n = true ↔ lo ≤ n ∧ n ≤ hi := by unfold btw; rw [decide_eq_true_eq]
theorem cntU_le (T : Nat → Int) (k : Nat) : cntU T k ≤ k := by
  induction k with
  | zero => simp [cntU]
  | succ k ih => simp only [cntU]; split <;> omega
theorem cntU_upd (T : Nat → Int) (x : Nat) (o : Int) (ho : o ≠ -1) (hx : T x = -1) (k : Nat) : cntU (updT T x o) k = cntU T k + if x < k then 1 else 0 := by
  induction k with
  | zero => simp [cntU]
  | succ k ih =>
    simp only [cntU]
    rw [ih]
    unfold updT
    by_cases h : k = x
    · subst h
      rw [if_pos rfl, if_neg ho, if_pos hx, if_neg (by omega), if_pos (by omega)]
    · rw [if_neg h]
      by_cases h2 : x < k
      · rw [if_pos h2, if_pos (show x < k + 1 by omega)]; omega
      · rw [if_neg h2, if_neg (show ¬ x < k + 1 by omega)]; omega
theorem giB_len {F : Nat} {o : Int} (ho : o ≠ -1) : ∀ (l : List Int) (T : Nat → Int), giB F o T l = true → l.length + cntU T F ≤ F := by
  intro l
  induction l with
  | nil => intro T _; have := cntU_le T F; simp; omega
  | cons x l ih =>
    intro T h
    simp only [giB, Bool.and_eq_true] at h
    obtain ⟨h0, h1, h2⟩ := fgB_of h.1
    have := ih _ h.2
    rw [cntU_upd _ _ _ ho h2, if_pos (by omega)] at this
    rw [List.length_cons]; omega
theorem gpB_len {F : Nat} (hF : F ≤ 64) : ∀ (l : List Pa) (i : Int) (T : Nat → Int), 0 ≤ i → gpB F i T l = true → ∀ p ∈ l, p.fr.length ≤ 64 := by
  intro l
  induction l with
  | nil => intro i T _ _ p hp; cases hp
  | cons q l ih =>
    intro i T hi h p hp
    simp only [gpB, Bool.and_eq_true] at h
    rcases List.mem_cons.1 hp with rfl | hp
    · have := giB_len (show i ≠ -1 by omega) _ _ h.1; omega
    · exact ih (i + 1) _ (by omega) h.2 p hp
theorem all_at {α : Type} (l : List α) (d : α) (f : α → Bool) : l.all f = true ↔ ∀ i, i < l.length → f (l.getD i d) = true := by
  rw [← all_range l d f, range_all_iff]
theorem cf_ref (c : Cf) : rcMay c = cfMay c := by
  rw [Bool.eq_iff_iff]
  unfold rcMay cfMay psB dsB wsB rfB
  rw [← unB_unl]
  simp only [Bool.and_eq_true, range_all_iff, rpB, and_assoc]
  constructor
  · rintro ⟨h1, h2, h3, h4, h5, h6, h7, h8, h9, h10, h11, h12⟩
    refine ⟨h1, h2, ?_, h3, h5, h6, h8, fun j hj => (h10 j hj).1, h7, h9, h11, h12⟩
    rw [all_at _ paD]
    intro i hi
    have a := (h10 i hi).2
    have b := (all_at _ paD _).1 h4 i hi
    unfold paB
    rw [a, Bool.true_and]
    unfold fr64 at b
    have := (btw_iff0.1 b).1
    exact decide_eq_true (by omega)
  · rintro ⟨h1, h2, h4, h3, h5, h6, h8, h10, h7, h9, h11, h12⟩
    refine ⟨h1, h2, h3, ?_, h5, h6, h7, h8, h9, fun j hj => ⟨h10 j hj, ?_⟩, h11, h12⟩
    · rw [all_at _ paD]
      intro i hi
      have b := (all_at _ paD _).1 h4 i hi
      unfold paB at b
      rw [Bool.and_eq_true, decide_eq_true_eq] at b
      have hf := btw_iff0.1 h1
      obtain ⟨F, hFe⟩ : ∃ F : Nat, c.fr = F := ⟨c.fr.toNat, by omega⟩
      have hu := h6
      unfold unB at hu
      rw [Bool.and_eq_true, hFe] at hu
      have hm : c.ps.getD i paD ∈ c.ps := by
        simp only [List.getD, List.getElem?_eq_getElem hi, Option.getD_some]; exact List.getElem_mem hi
      have := gpB_len (by omega) _ _ _ (by omega) hu.1 _ hm
      exact btw_iff0.2 (by omega)
    · have b := (all_at _ paD _).1 h4 j hj
      unfold paB at b
      rw [Bool.and_eq_true] at b
      exact b.1
end Go.Proofs.YtkaalinoiilmoaaGreat
