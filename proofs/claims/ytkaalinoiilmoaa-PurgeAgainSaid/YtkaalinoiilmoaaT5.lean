/-
  What the proofs lean on: contracts of the program's functions, plain facts.
-/
import Derived.Test.YtkaalinoiilmoaaT4
import Derived.Laws.EntriesVeiled
import Derived.Test.YtkaalinoiilmoaaT3
import Derived.Deep.AppendLies
import Derived.Laws.MakeOwn
import Derived.StillTailTactics
import Derived.Test.YtkaalinoiilmoaaT1
namespace Go.Proofs.Ytkaalinoiilmoaa
open Go.RowKit
set_option linter.unusedVariables false
set_option linter.unusedSimpArgs false
set_option maxRecDepth 100000
structure VdS (w1 : World) (c : Cf) (vp vd vw vg : Value) (y pb pa i j : Nat) (li ci lj cj : Int) (w' : World) : Prop where
  cb : Blk w' y 27 (cfc c vp vd vw vg)
  ca : CfAt w' vp vd vw vg c
  rows : w'.cell? ⟨pb, pa + i * 5, none⟩ = some (.int .i64 li) ∧ w'.cell? ⟨pb, pa + i * 5 + 1, none⟩ = some (.int .i64 ci) ∧ w'.cell? ⟨pb, pa + j * 5, none⟩ = some (.int .i64 lj) ∧ w'.cell? ⟨pb, pa + j * 5 + 1, none⟩ = some (.int .i64 cj)
  rlt : pb < w'.heap.size
  below : Below w1.heap.size w1 w'
section
variable {w1 w' w2 : World} {c : Cf} {vp vd vw vg : Value} {y pb pa i j : Nat} {li ci lj cj : Int}
theorem VdS.next (h : VdS w1 c vp vd vw vg y pb pa i j li ci lj cj w') (hb : Below w'.heap.size w' w2) : VdS w1 c vp vd vw vg y pb pa i j li ci lj cj w2 := by
  have g := fun x => hb.cell (p := ⟨pb, x, none⟩) h.rlt
  obtain ⟨r0, r1, r2, r3⟩ := h.rows
  exact ⟨h.cb.below hb h.cb.lt, h.ca.below hb, ⟨(g _).trans r0, (g _).trans r1, (g _).trans r2, (g _).trans r3⟩, Nat.lt_of_lt_of_le h.rlt hb.size, Below.down h.below hb h.below.size⟩
theorem VdS.drew (h : VdS w1 c vp vd vw vg y pb pa i j li ci lj cj w') : VdS w1 c vp vd vw vg y pb pa i j li ci lj cj w'.drew := h.next (bdrewN (Below.refl _ _) 1)
theorem VdS.all (h : VdS w1 c vp vd vw vg y pb pa i j li ci lj cj w') : (w'.cell? ⟨y, 0, none⟩ = some (.int .i64 c.fr) ∧ w'.cell? ⟨y, 1, none⟩ = some vp ∧ w'.cell? ⟨y, 2, none⟩ = some vd ∧ w'.cell? ⟨y, 3, none⟩ = some (.int .i64 c.mj) ∧ w'.cell? ⟨y, 4, none⟩ = some vw ∧ w'.cell? ⟨y, 5, none⟩ = some vg ∧ w'.cell? ⟨y, 6, none⟩ = some (.int .i64 c.se) ∧ w'.cell? ⟨y, 7, none⟩ = some (.int .i64 c.qu) ∧ w'.cell? ⟨y, 8, none⟩ = some (.int .i64 c.qt) ∧ w'.cell? ⟨pb, pa + i * 5, none⟩ = some (.int .i64 li) ∧ w'.cell? ⟨pb, pa + i * 5 + 1, none⟩ = some (.int .i64 ci) ∧ w'.cell? ⟨pb, pa + j * 5, none⟩ = some (.int .i64 lj) ∧ w'.cell? ⟨pb, pa + j * 5 + 1, none⟩ = some (.int .i64 cj)) ∧ VdS w1 c vp vd vw vg y pb pa i j li ci lj cj w' := by
  obtain ⟨k0, k1, k2, k3, k4, k5, k6, k7, k8⟩ := cf_at h.cb
  exact ⟨⟨k0, k1, k2, k3, k4, k5, k6, k7, k8, h.rows⟩, h⟩
end
set_option maxHeartbeats 2000000 in
theorem vdirect_any {w : World} {c : Cf} {vp vd vw vg : Value} (hc : CfAt w vp vd vw vg c) (i j : Nat) (hi : i < c.ps.length) (hj : j < c.ps.length) :
    Calls Try.prog 24 #[.agg #[.int .i64 c.fr, vp, vd, .int .i64 c.mj, vw, vg, .int .i64 c.se, .int .i64 c.qu, .int .i64 c.qt], .int .i64 (i : Int), .int .i64 (j : Int)] w fun e w' => e = .returned (.bool (dN c i j)) ∧ Below w.heap.size w w' := by
  obtain ⟨A, cap, pb, pa, sv, rfl, hA, hr⟩ := hc.ps.rows
  obtain ⟨rfl, hpb⟩ := hA (by omega)
  obtain ⟨⟨i0, i1, -, -, -⟩, -⟩ := hr i hi
  obtain ⟨⟨j0, j1, -, -, -⟩, -⟩ := hr j hj
  have hps := hc.pz.1
  obtain ⟨hb, hB⟩ := cf_box w c (.slice (some ⟨pb, pa, none⟩) c.ps.length cap) vd vw vg
  have g := fun x => hB.cell (p := ⟨pb, x, none⟩) hpb
  have hS : VdS (w.alloc (.cells #[.int .i64 c.fr, (.slice (some ⟨pb, pa, none⟩) c.ps.length cap), vd, .int .i64 c.mj, vw, vg, .int .i64 c.se, .int .i64 c.qu, .int .i64 c.qt] 27)) c (.slice (some ⟨pb, pa, none⟩) c.ps.length cap) vd vw vg w.heap.size pb pa i j (c.ps.getD i paD).lv (c.ps.getD i paD).ct (c.ps.getD j paD).lv (c.ps.getD j paD).ct (w.alloc (.cells #[.int .i64 c.fr, (.slice (some ⟨pb, pa, none⟩) c.ps.length cap), vd, .int .i64 c.mj, vw, vg, .int .i64 c.se, .int .i64 c.qu, .int .i64 c.qt] 27)) :=
    ⟨hb, hc.below hB, ⟨(g _).trans i0, (g _).trans i1, (g _).trans j0, (g _).trans j1⟩, Nat.lt_of_lt_of_le hpb hB.size, Below.refl _ _⟩
  have HB := Lib.hid hB
  obtain ⟨Q, hQ⟩ : ∃ Q, dN c i j = Q := ⟨_, rfl⟩
  rw [hQ]
  obtain ⟨L, hL⟩ : ∃ L, ldB c i j = L := ⟨_, rfl⟩
  obtain ⟨G1, hG1⟩ : ∃ G, gtB c i j false = G := ⟨_, rfl⟩
  obtain ⟨G2, hG2⟩ : ∃ G, gtB c j i true = G := ⟨_, rfl⟩
  unfold dN dfB at hQ
  rw [hL, hG1, hG2] at hQ
  unfold ldB at hL
  simp only [Int.toNat_natCast] at hL
  have HQ := Lib.hid hQ; have HL := Lib.hid hL; have HG1 := Lib.hid hG1; have HG2 := Lib.hid hG2
  clear hQ hL hG1 hG2 hB hb g i0 i1 j0 j1 hr hA hc
  generalize (c.ps.getD i paD).lv = li at *
  generalize (c.ps.getD i paD).ct = ci at *
  generalize (c.ps.getD j paD).lv = lj at *
  generalize (c.ps.getD j paD).ct = cj at *
  generalize hn : c.ps.length = n at *
  have HN := Lib.hid hn
  clear hn
  have hii : (i : Int) < (n : Int) := by omega
  have hji : (j : Int) < (n : Int) := by omega
  by_cases he : i = j
  · have HQ9 := Lib.hid (show Q = true by rw [← HQ.out, he]; simp)
    have hee : ((i : Int) == (j : Int)) = true := by rw [he]; simp
    clear he
    go_enter Try.func24, Try.ntmps24
    go_wp2_with fail
    generalize w.alloc (.cells #[.int .i64 c.fr, (.slice (some ⟨pb, pa, none⟩) n cap), vd, .int .i64 c.mj, vw, vg, .int .i64 c.se, .int .i64 c.qu, .int .i64 c.qt] 27) = w1 at *
    generalize hz : w.heap.size = y at *
    refine wp_region_held_drew (S := (fun w' => (w'.cell? ⟨y, 0, none⟩ = some (.int .i64 c.fr) ∧ w'.cell? ⟨y, 1, none⟩ = some (.slice (some ⟨pb, pa, none⟩) n cap) ∧ w'.cell? ⟨y, 2, none⟩ = some vd ∧ w'.cell? ⟨y, 3, none⟩ = some (.int .i64 c.mj) ∧ w'.cell? ⟨y, 4, none⟩ = some vw ∧ w'.cell? ⟨y, 5, none⟩ = some vg ∧ w'.cell? ⟨y, 6, none⟩ = some (.int .i64 c.se) ∧ w'.cell? ⟨y, 7, none⟩ = some (.int .i64 c.qu) ∧ w'.cell? ⟨y, 8, none⟩ = some (.int .i64 c.qt) ∧ w'.cell? ⟨pb, pa + i * 5, none⟩ = some (.int .i64 li) ∧ w'.cell? ⟨pb, pa + i * 5 + 1, none⟩ = some (.int .i64 ci) ∧ w'.cell? ⟨pb, pa + j * 5, none⟩ = some (.int .i64 lj) ∧ w'.cell? ⟨pb, pa + j * 5 + 1, none⟩ = some (.int .i64 cj)) ∧ VdS w1 c (.slice (some ⟨pb, pa, none⟩) n cap) vd vw vg y pb pa i j li ci lj cj w')) (by kernel_rfl) ?_ (fun hHeld => ?_)
    · try dsimp only
      (refine VdS.all ?_; (first | with_reducible assumption | with_reducible exact VdS.drew (by assumption) | with_reducible exact VdS.drew (And.right (by assumption)) | with_reducible exact VdS.next (by assumption) (by assumption) | with_reducible exact VdS.next (And.right (by assumption)) (by assumption)))
    refine wpAnyH_take (i := 0) (v := ?v0zA) rfl (by kernel_rfl) (by kernel_rfl) (by kernel_rfl) (fun _ _ _ h => h) (Or.inl ⟨by rfl, ?hy0zA⟩) (by assumption) ?rest0zA
    case hy0zA => intro w hSw; (try dsimp only at hSw); first | (go_simp; done) | (go_simp; with_reducible rfl)
    try simp only [Act.put, List.getElem_toArray, List.getElem_cons_succ, List.getElem_cons_zero, List.setIfInBounds_toArray, List.set_cons_zero, List.set_cons_succ]
    refine wpAnyH_take (i := 1) (v := ?v1zA) rfl (by kernel_rfl) (by kernel_rfl) (by kernel_rfl) (fun _ _ _ h => h) (Or.inl ⟨by rfl, ?hy1zA⟩) (by assumption) ?rest1zA
    case hy1zA => intro w hSw; (try dsimp only at hSw); first | (go_simp; done) | (go_simp; with_reducible rfl)
    try simp only [Act.put, List.getElem_toArray, List.getElem_cons_succ, List.getElem_cons_zero, List.setIfInBounds_toArray, List.set_cons_zero, List.set_cons_succ]
    refine wpAnyH_take (i := 2) (v := ?v2zA) rfl (by kernel_rfl) (by kernel_rfl) (by kernel_rfl) (fun _ _ _ h => h) (Or.inl ⟨by rfl, ?hy2zA⟩) (by assumption) ?rest2zA
    case hy2zA => intro w hSw; (try dsimp only at hSw); first | (go_simp; done) | (go_simp; with_reducible rfl)
    try simp only [Act.put, List.getElem_toArray, List.getElem_cons_succ, List.getElem_cons_zero, List.setIfInBounds_toArray, List.set_cons_zero, List.set_cons_succ]
    refine wpAnyH_take (i := 3) (v := ?v3zA) rfl (by kernel_rfl) (by kernel_rfl) (by kernel_rfl) (fun _ _ _ h => h) (Or.inl ⟨by rfl, ?hy3zA⟩) (by assumption) ?rest3zA
    case hy3zA => intro w hSw; (try dsimp only at hSw); first | (go_simp; done) | (go_simp; with_reducible rfl)
    try simp only [Act.put, List.getElem_toArray, List.getElem_cons_succ, List.getElem_cons_zero, List.setIfInBounds_toArray, List.set_cons_zero, List.set_cons_succ]
    refine wpAnyH_take (i := 4) (v := undef) rfl (by kernel_rfl) (by kernel_rfl) (by kernel_rfl) (fun _ _ _ h => h) (Or.inr ⟨by rfl, rfl⟩) (by assumption) ?rest4zA
    try simp only [Act.put, List.getElem_toArray, List.getElem_cons_succ, List.getElem_cons_zero, List.setIfInBounds_toArray, List.set_cons_zero, List.set_cons_succ]
    refine wpAnyH_take (i := 5) (v := undef) rfl (by kernel_rfl) (by kernel_rfl) (by kernel_rfl) (fun _ _ _ h => h) (Or.inr ⟨by rfl, rfl⟩) (by assumption) ?rest5zA
    try simp only [Act.put, List.getElem_toArray, List.getElem_cons_succ, List.getElem_cons_zero, List.setIfInBounds_toArray, List.set_cons_zero, List.set_cons_succ]
    refine wpAnyH_take (i := 6) (v := undef) rfl (by kernel_rfl) (by kernel_rfl) (by kernel_rfl) (fun _ _ _ h => h) (Or.inr ⟨by rfl, rfl⟩) (by assumption) ?rest6zA
    try simp only [Act.put, List.getElem_toArray, List.getElem_cons_succ, List.getElem_cons_zero, List.setIfInBounds_toArray, List.set_cons_zero, List.set_cons_succ]
    refine wpAnyH_take (i := 7) (v := undef) rfl (by kernel_rfl) (by kernel_rfl) (by kernel_rfl) (fun _ _ _ h => h) (Or.inr ⟨by rfl, rfl⟩) (by assumption) ?rest7zA
    try simp only [Act.put, List.getElem_toArray, List.getElem_cons_succ, List.getElem_cons_zero, List.setIfInBounds_toArray, List.set_cons_zero, List.set_cons_succ]
    refine wpAnyH_take (i := 8) (v := undef) rfl (by kernel_rfl) (by kernel_rfl) (by kernel_rfl) (fun _ _ _ h => h) (Or.inr ⟨by rfl, rfl⟩) (by assumption) ?rest8zA
    try simp only [Act.put, List.getElem_toArray, List.getElem_cons_succ, List.getElem_cons_zero, List.setIfInBounds_toArray, List.set_cons_zero, List.set_cons_succ]
    refine wpAnyH_take (i := 9) (v := undef) rfl (by kernel_rfl) (by kernel_rfl) (by kernel_rfl) (fun _ _ _ h => h) (Or.inr ⟨by rfl, rfl⟩) (by assumption) ?rest9zA
    try simp only [Act.put, List.getElem_toArray, List.getElem_cons_succ, List.getElem_cons_zero, List.setIfInBounds_toArray, List.set_cons_zero, List.set_cons_succ]
    refine wpAnyH_take (i := 10) (v := undef) rfl (by kernel_rfl) (by kernel_rfl) (by kernel_rfl) (fun _ _ _ h => h) (Or.inr ⟨by rfl, rfl⟩) (by assumption) ?rest10zA
    try simp only [Act.put, List.getElem_toArray, List.getElem_cons_succ, List.getElem_cons_zero, List.setIfInBounds_toArray, List.set_cons_zero, List.set_cons_succ]
    refine wpAnyH_take (i := 11) (v := undef) rfl (by kernel_rfl) (by kernel_rfl) (by kernel_rfl) (fun _ _ _ h => h) (Or.inr ⟨by rfl, rfl⟩) (by assumption) ?rest11zA
    try simp only [Act.put, List.getElem_toArray, List.getElem_cons_succ, List.getElem_cons_zero, List.setIfInBounds_toArray, List.set_cons_zero, List.set_cons_succ]
    refine wpAnyH_take (i := 12) (v := undef) rfl (by kernel_rfl) (by kernel_rfl) (by kernel_rfl) (fun _ _ _ h => h) (Or.inr ⟨by rfl, rfl⟩) (by assumption) ?rest12zA
    try simp only [Act.put, List.getElem_toArray, List.getElem_cons_succ, List.getElem_cons_zero, List.setIfInBounds_toArray, List.set_cons_zero, List.set_cons_succ]
    refine wpAnyH_take (i := 13) (v := undef) rfl (by kernel_rfl) (by kernel_rfl) (by kernel_rfl) (fun _ _ _ h => h) (Or.inr ⟨by rfl, rfl⟩) (by assumption) ?rest13zA
    try simp only [Act.put, List.getElem_toArray, List.getElem_cons_succ, List.getElem_cons_zero, List.setIfInBounds_toArray, List.set_cons_zero, List.set_cons_succ]
    refine wpAnyH_take (i := 14) (v := undef) rfl (by kernel_rfl) (by kernel_rfl) (by kernel_rfl) (fun _ _ _ h => h) (Or.inr ⟨by rfl, rfl⟩) (by assumption) ?rest14zA
    try simp only [Act.put, List.getElem_toArray, List.getElem_cons_succ, List.getElem_cons_zero, List.setIfInBounds_toArray, List.set_cons_zero, List.set_cons_succ]
    refine wpAnyH_take (i := 15) (v := undef) rfl (by kernel_rfl) (by kernel_rfl) (by kernel_rfl) (fun _ _ _ h => h) (Or.inr ⟨by rfl, rfl⟩) (by assumption) ?rest15zA
    try simp only [Act.put, List.getElem_toArray, List.getElem_cons_succ, List.getElem_cons_zero, List.setIfInBounds_toArray, List.set_cons_zero, List.set_cons_succ]
    refine wpAnyH_take (i := 16) (v := undef) rfl (by kernel_rfl) (by kernel_rfl) (by kernel_rfl) (fun _ _ _ h => h) (Or.inr ⟨by rfl, rfl⟩) (by assumption) ?rest16zA
    try simp only [Act.put, List.getElem_toArray, List.getElem_cons_succ, List.getElem_cons_zero, List.setIfInBounds_toArray, List.set_cons_zero, List.set_cons_succ]
    refine wpAnyH_take (i := 17) (v := ?v17zA) rfl (by kernel_rfl) (by kernel_rfl) (by kernel_rfl) (fun _ _ _ h => h) (Or.inl ⟨by rfl, ?hy17zA⟩) (by assumption) ?rest17zA
    case hy17zA => intro w hSw; (try dsimp only at hSw); first | (go_simp; done) | (go_simp; with_reducible rfl)
    try simp only [Act.put, List.getElem_toArray, List.getElem_cons_succ, List.getElem_cons_zero, List.setIfInBounds_toArray, List.set_cons_zero, List.set_cons_succ]
    refine wpAnyH_take (i := 18) (v := ?v18zA) rfl (by kernel_rfl) (by kernel_rfl) (by kernel_rfl) (fun _ _ _ h => h) (Or.inl ⟨by rfl, ?hy18zA⟩) (by assumption) ?rest18zA
    case hy18zA => intro w hSw; (try dsimp only at hSw); first | (go_simp; done) | (go_simp; with_reducible rfl)
    try simp only [Act.put, List.getElem_toArray, List.getElem_cons_succ, List.getElem_cons_zero, List.setIfInBounds_toArray, List.set_cons_zero, List.set_cons_succ]
    refine wpAnyH_take (i := 19) (v := undef) rfl (by kernel_rfl) (by kernel_rfl) (by kernel_rfl) (fun _ _ _ h => h) (Or.inr ⟨by rfl, rfl⟩) (by assumption) ?rest19zA
    try simp only [Act.put, List.getElem_toArray, List.getElem_cons_succ, List.getElem_cons_zero, List.setIfInBounds_toArray, List.set_cons_zero, List.set_cons_succ]
    refine wpAnyH_take (i := 20) (v := undef) rfl (by kernel_rfl) (by kernel_rfl) (by kernel_rfl) (fun _ _ _ h => h) (Or.inr ⟨by rfl, rfl⟩) (by assumption) ?rest20zA
    try simp only [Act.put, List.getElem_toArray, List.getElem_cons_succ, List.getElem_cons_zero, List.setIfInBounds_toArray, List.set_cons_zero, List.set_cons_succ]
    refine wpAnyH_take (i := 21) (v := undef) rfl (by kernel_rfl) (by kernel_rfl) (by kernel_rfl) (fun _ _ _ h => h) (Or.inr ⟨by rfl, rfl⟩) (by assumption) ?rest21zA
    try simp only [Act.put, List.getElem_toArray, List.getElem_cons_succ, List.getElem_cons_zero, List.setIfInBounds_toArray, List.set_cons_zero, List.set_cons_succ]
    refine wpAnyH_take (i := 22) (v := undef) rfl (by kernel_rfl) (by kernel_rfl) (by kernel_rfl) (fun _ _ _ h => h) (Or.inr ⟨by rfl, rfl⟩) (by assumption) ?rest22zA
    try simp only [Act.put, List.getElem_toArray, List.getElem_cons_succ, List.getElem_cons_zero, List.setIfInBounds_toArray, List.set_cons_zero, List.set_cons_succ]
    refine wpAnyH_take (i := 23) (v := ?v23zA) rfl (by kernel_rfl) (by kernel_rfl) (by kernel_rfl) (fun _ _ _ h => h) (Or.inl ⟨by rfl, ?hy23zA⟩) (by assumption) ?rest23zA
    case hy23zA => intro w hSw; (try dsimp only at hSw); first | (go_simp; done) | (go_simp; with_reducible rfl)
    try simp only [Act.put, List.getElem_toArray, List.getElem_cons_succ, List.getElem_cons_zero, List.setIfInBounds_toArray, List.set_cons_zero, List.set_cons_succ]
    refine wpAnyH_take (i := 24) (v := ?v24zA) rfl (by kernel_rfl) (by kernel_rfl) (by kernel_rfl) (fun _ _ _ h => h) (Or.inl ⟨by rfl, ?hy24zA⟩) (by assumption) ?rest24zA
    case hy24zA => intro w hSw; (try dsimp only at hSw); first | (go_simp; done) | (go_simp; with_reducible rfl)
    try simp only [Act.put, List.getElem_toArray, List.getElem_cons_succ, List.getElem_cons_zero, List.setIfInBounds_toArray, List.set_cons_zero, List.set_cons_succ]
    refine wpAnyH_take (i := 25) (v := undef) rfl (by kernel_rfl) (by kernel_rfl) (by kernel_rfl) (fun _ _ _ h => h) (Or.inr ⟨by rfl, rfl⟩) (by assumption) ?rest25zA
    try simp only [Act.put, List.getElem_toArray, List.getElem_cons_succ, List.getElem_cons_zero, List.setIfInBounds_toArray, List.set_cons_zero, List.set_cons_succ]
    refine wpAnyH_take (i := 26) (v := undef) rfl (by kernel_rfl) (by kernel_rfl) (by kernel_rfl) (fun _ _ _ h => h) (Or.inr ⟨by rfl, rfl⟩) (by assumption) ?rest26zA
    try simp only [Act.put, List.getElem_toArray, List.getElem_cons_succ, List.getElem_cons_zero, List.setIfInBounds_toArray, List.set_cons_zero, List.set_cons_succ]
    refine wpAnyH_take (i := 27) (v := undef) rfl (by kernel_rfl) (by kernel_rfl) (by kernel_rfl) (fun _ _ _ h => h) (Or.inr ⟨by rfl, rfl⟩) (by assumption) ?rest27zA
    try simp only [Act.put, List.getElem_toArray, List.getElem_cons_succ, List.getElem_cons_zero, List.setIfInBounds_toArray, List.set_cons_zero, List.set_cons_succ]
    refine wpAnyH_take (i := 28) (v := undef) rfl (by kernel_rfl) (by kernel_rfl) (by kernel_rfl) (fun _ _ _ h => h) (Or.inr ⟨by rfl, rfl⟩) (by assumption) ?rest28zA
    try simp only [Act.put, List.getElem_toArray, List.getElem_cons_succ, List.getElem_cons_zero, List.setIfInBounds_toArray, List.set_cons_zero, List.set_cons_succ]
    refine wpAnyH_take (i := 29) (v := ?v29zA) rfl (by kernel_rfl) (by kernel_rfl) (by kernel_rfl) (fun _ _ _ h => h) (Or.inl ⟨by rfl, ?hy29zA⟩) (by assumption) ?rest29zA
    case hy29zA => intro w hSw; (try dsimp only at hSw); first | (go_simp; done) | (go_simp; with_reducible rfl)
    try simp only [Act.put, List.getElem_toArray, List.getElem_cons_succ, List.getElem_cons_zero, List.setIfInBounds_toArray, List.set_cons_zero, List.set_cons_succ]
    refine wpAnyH_take (i := 30) (v := ?v30zA) rfl (by kernel_rfl) (by kernel_rfl) (by kernel_rfl) (fun _ _ _ h => h) (Or.inl ⟨by rfl, ?hy30zA⟩) (by assumption) ?rest30zA
    case hy30zA => intro w hSw; (try dsimp only at hSw); first | (go_simp; done) | (go_simp; with_reducible rfl)
    try simp only [Act.put, List.getElem_toArray, List.getElem_cons_succ, List.getElem_cons_zero, List.setIfInBounds_toArray, List.set_cons_zero, List.set_cons_succ]
    refine wpAnyH_done (by kernel_rfl) ?_ _
    all_goals
      have HS9 := Lib.hid hHeld.2.below
      clear hHeld
      go_wp2_with fail
      go_ret
      exact ⟨by rw [HQ9.out]; rfl, by rw [hz]; exact Below.down HB.out HS9.out (by have := HB.out.size; omega)⟩
  · have hee : ((i : Int) == (j : Int)) = false := beq_eq_false_iff_ne.2 (by omega)
    have hd : decide ((i : Int) = (j : Int)) = false := decide_eq_false (by omega)
    rw [hd, Bool.false_or] at HQ
    clear he hd
    cases L with
    | true =>
      have HQ9 := Lib.hid (show Q = true by rw [← HQ.out]; rfl)
      go_enter Try.func24, Try.ntmps24
      go_wp2_with fail
      generalize w.alloc (.cells #[.int .i64 c.fr, (.slice (some ⟨pb, pa, none⟩) n cap), vd, .int .i64 c.mj, vw, vg, .int .i64 c.se, .int .i64 c.qu, .int .i64 c.qt] 27) = w1 at *
      generalize hz : w.heap.size = y at *
      refine wp_region_held_drew (S := (fun w' => (w'.cell? ⟨y, 0, none⟩ = some (.int .i64 c.fr) ∧ w'.cell? ⟨y, 1, none⟩ = some (.slice (some ⟨pb, pa, none⟩) n cap) ∧ w'.cell? ⟨y, 2, none⟩ = some vd ∧ w'.cell? ⟨y, 3, none⟩ = some (.int .i64 c.mj) ∧ w'.cell? ⟨y, 4, none⟩ = some vw ∧ w'.cell? ⟨y, 5, none⟩ = some vg ∧ w'.cell? ⟨y, 6, none⟩ = some (.int .i64 c.se) ∧ w'.cell? ⟨y, 7, none⟩ = some (.int .i64 c.qu) ∧ w'.cell? ⟨y, 8, none⟩ = some (.int .i64 c.qt) ∧ w'.cell? ⟨pb, pa + i * 5, none⟩ = some (.int .i64 li) ∧ w'.cell? ⟨pb, pa + i * 5 + 1, none⟩ = some (.int .i64 ci) ∧ w'.cell? ⟨pb, pa + j * 5, none⟩ = some (.int .i64 lj) ∧ w'.cell? ⟨pb, pa + j * 5 + 1, none⟩ = some (.int .i64 cj)) ∧ VdS w1 c (.slice (some ⟨pb, pa, none⟩) n cap) vd vw vg y pb pa i j li ci lj cj w')) (by kernel_rfl) ?_ (fun hHeld => ?_)
      · try dsimp only
        (refine VdS.all ?_; (first | with_reducible assumption | with_reducible exact VdS.drew (by assumption) | with_reducible exact VdS.drew (And.right (by assumption)) | with_reducible exact VdS.next (by assumption) (by assumption) | with_reducible exact VdS.next (And.right (by assumption)) (by assumption)))
      refine wpAnyH_take (i := 0) (v := ?v0zB) rfl (by kernel_rfl) (by kernel_rfl) (by kernel_rfl) (fun _ _ _ h => h) (Or.inl ⟨by rfl, ?hy0zB⟩) (by assumption) ?rest0zB
      case hy0zB => intro w hSw; (try dsimp only at hSw); first | (go_simp; done) | (go_simp; with_reducible rfl)
      try simp only [Act.put, List.getElem_toArray, List.getElem_cons_succ, List.getElem_cons_zero, List.setIfInBounds_toArray, List.set_cons_zero, List.set_cons_succ]
      refine wpAnyH_take (i := 1) (v := ?v1zB) rfl (by kernel_rfl) (by kernel_rfl) (by kernel_rfl) (fun _ _ _ h => h) (Or.inl ⟨by rfl, ?hy1zB⟩) (by assumption) ?rest1zB
      case hy1zB => intro w hSw; (try dsimp only at hSw); first | (go_simp; done) | (go_simp; with_reducible rfl)
      try simp only [Act.put, List.getElem_toArray, List.getElem_cons_succ, List.getElem_cons_zero, List.setIfInBounds_toArray, List.set_cons_zero, List.set_cons_succ]
      refine wpAnyH_take (i := 2) (v := ?v2zB) rfl (by kernel_rfl) (by kernel_rfl) (by kernel_rfl) (fun _ _ _ h => h) (Or.inl ⟨by rfl, ?hy2zB⟩) (by assumption) ?rest2zB
      case hy2zB => intro w hSw; (try dsimp only at hSw); first | (go_simp; done) | (go_simp; with_reducible rfl)
      try simp only [Act.put, List.getElem_toArray, List.getElem_cons_succ, List.getElem_cons_zero, List.setIfInBounds_toArray, List.set_cons_zero, List.set_cons_succ]
      refine wpAnyH_take (i := 3) (v := ?v3zB) rfl (by kernel_rfl) (by kernel_rfl) (by kernel_rfl) (fun _ _ _ h => h) (Or.inl ⟨by rfl, ?hy3zB⟩) (by assumption) ?rest3zB
      case hy3zB => intro w hSw; (try dsimp only at hSw); first | (go_simp; done) | (go_simp; with_reducible rfl)
      try simp only [Act.put, List.getElem_toArray, List.getElem_cons_succ, List.getElem_cons_zero, List.setIfInBounds_toArray, List.set_cons_zero, List.set_cons_succ]
      refine wpAnyH_take (i := 4) (v := ?v4zB) rfl (by kernel_rfl) (by kernel_rfl) (by kernel_rfl) (fun _ _ _ h => h) (Or.inl ⟨by rfl, ?hy4zB⟩) (by assumption) ?rest4zB
      case hy4zB => intro w hSw; (try dsimp only at hSw); first | (go_simp; done) | (go_simp; with_reducible rfl)
      try simp only [Act.put, List.getElem_toArray, List.getElem_cons_succ, List.getElem_cons_zero, List.setIfInBounds_toArray, List.set_cons_zero, List.set_cons_succ]
      refine wpAnyH_take (i := 5) (v := ?v5zB) rfl (by kernel_rfl) (by kernel_rfl) (by kernel_rfl) (fun _ _ _ h => h) (Or.inl ⟨by rfl, ?hy5zB⟩) (by assumption) ?rest5zB
      case hy5zB => intro w hSw; (try dsimp only at hSw); first | (go_simp; done) | (go_simp; with_reducible rfl)
      try simp only [Act.put, List.getElem_toArray, List.getElem_cons_succ, List.getElem_cons_zero, List.setIfInBounds_toArray, List.set_cons_zero, List.set_cons_succ]
      refine wpAnyH_take (i := 6) (v := ?v6zB) rfl (by kernel_rfl) (by kernel_rfl) (by kernel_rfl) (fun _ _ _ h => h) (Or.inl ⟨by rfl, ?hy6zB⟩) (by assumption) ?rest6zB
      case hy6zB => intro w hSw; (try dsimp only at hSw); first | (go_simp; done) | (go_simp; with_reducible rfl)
      try simp only [Act.put, List.getElem_toArray, List.getElem_cons_succ, List.getElem_cons_zero, List.setIfInBounds_toArray, List.set_cons_zero, List.set_cons_succ]
      refine wpAnyH_take (i := 7) (v := ?v7zB) rfl (by kernel_rfl) (by kernel_rfl) (by kernel_rfl) (fun _ _ _ h => h) (Or.inl ⟨by rfl, ?hy7zB⟩) (by assumption) ?rest7zB
      case hy7zB => intro w hSw; (try dsimp only at hSw); first | (go_simp; done) | (go_simp; with_reducible rfl)
      try simp only [Act.put, List.getElem_toArray, List.getElem_cons_succ, List.getElem_cons_zero, List.setIfInBounds_toArray, List.set_cons_zero, List.set_cons_succ]
      refine wpAnyH_take (i := 8) (v := ?v8zB) rfl (by kernel_rfl) (by kernel_rfl) (by kernel_rfl) (fun _ _ _ h => h) (Or.inl ⟨by rfl, ?hy8zB⟩) (by assumption) ?rest8zB
      case hy8zB => intro w hSw; (try dsimp only at hSw); first | (go_simp; done) | (go_simp; with_reducible rfl)
      try simp only [Act.put, List.getElem_toArray, List.getElem_cons_succ, List.getElem_cons_zero, List.setIfInBounds_toArray, List.set_cons_zero, List.set_cons_succ]
      refine wpAnyH_take (i := 9) (v := ?v9zB) rfl (by kernel_rfl) (by kernel_rfl) (by kernel_rfl) (fun _ _ _ h => h) (Or.inl ⟨by rfl, ?hy9zB⟩) (by assumption) ?rest9zB
      case hy9zB => intro w hSw; (try dsimp only at hSw); first | (go_simp; done) | (go_simp; with_reducible rfl)
      try simp only [Act.put, List.getElem_toArray, List.getElem_cons_succ, List.getElem_cons_zero, List.setIfInBounds_toArray, List.set_cons_zero, List.set_cons_succ]
      refine wpAnyH_take (i := 10) (v := ?v10zB) rfl (by kernel_rfl) (by kernel_rfl) (by kernel_rfl) (fun _ _ _ h => h) (Or.inl ⟨by rfl, ?hy10zB⟩) (by assumption) ?rest10zB
      case hy10zB => intro w hSw; (try dsimp only at hSw); first | (go_simp; done) | (go_simp; with_reducible rfl)
      try simp only [Act.put, List.getElem_toArray, List.getElem_cons_succ, List.getElem_cons_zero, List.setIfInBounds_toArray, List.set_cons_zero, List.set_cons_succ]
      refine wpAnyH_take (i := 11) (v := ?v11zB) rfl (by kernel_rfl) (by kernel_rfl) (by kernel_rfl) (fun _ _ _ h => h) (Or.inl ⟨by rfl, ?hy11zB⟩) (by assumption) ?rest11zB
      case hy11zB => intro w hSw; (try dsimp only at hSw); first | (go_simp; done) | (go_simp; with_reducible rfl)
      try simp only [Act.put, List.getElem_toArray, List.getElem_cons_succ, List.getElem_cons_zero, List.setIfInBounds_toArray, List.set_cons_zero, List.set_cons_succ]
      refine wpAnyH_take (i := 12) (v := ?v12zB) rfl (by kernel_rfl) (by kernel_rfl) (by kernel_rfl) (fun _ _ _ h => h) (Or.inl ⟨by rfl, ?hy12zB⟩) (by assumption) ?rest12zB
      case hy12zB => intro w hSw; (try dsimp only at hSw); first | (go_simp; done) | (go_simp; with_reducible rfl)
      try simp only [Act.put, List.getElem_toArray, List.getElem_cons_succ, List.getElem_cons_zero, List.setIfInBounds_toArray, List.set_cons_zero, List.set_cons_succ]
      refine wpAnyH_take (i := 13) (v := ?v13zB) rfl (by kernel_rfl) (by kernel_rfl) (by kernel_rfl) (fun _ _ _ h => h) (Or.inl ⟨by rfl, ?hy13zB⟩) (by assumption) ?rest13zB
      case hy13zB => intro w hSw; (try dsimp only at hSw); first | (go_simp; done) | (go_simp; with_reducible rfl)
      try simp only [Act.put, List.getElem_toArray, List.getElem_cons_succ, List.getElem_cons_zero, List.setIfInBounds_toArray, List.set_cons_zero, List.set_cons_succ]
      refine wpAnyH_take (i := 14) (v := ?v14zB) rfl (by kernel_rfl) (by kernel_rfl) (by kernel_rfl) (fun _ _ _ h => h) (Or.inl ⟨by rfl, ?hy14zB⟩) (by assumption) ?rest14zB
      case hy14zB => intro w hSw; (try dsimp only at hSw); first | (go_simp; done) | (go_simp; with_reducible rfl)
      try simp only [Act.put, List.getElem_toArray, List.getElem_cons_succ, List.getElem_cons_zero, List.setIfInBounds_toArray, List.set_cons_zero, List.set_cons_succ]
      refine wpAnyH_take (i := 15) (v := ?v15zB) rfl (by kernel_rfl) (by kernel_rfl) (by kernel_rfl) (fun _ _ _ h => h) (Or.inl ⟨by rfl, ?hy15zB⟩) (by assumption) ?rest15zB
      case hy15zB => intro w hSw; (try dsimp only at hSw); first | (go_simp; done) | (go_simp; with_reducible rfl)
      try simp only [Act.put, List.getElem_toArray, List.getElem_cons_succ, List.getElem_cons_zero, List.setIfInBounds_toArray, List.set_cons_zero, List.set_cons_succ]
      refine wpAnyH_ready (rs := [16]) (by kernel_rfl) (by simp) ?_
      refine AllReadyH.cons rfl (fun K hK => ?_) AllReadyH.nil
      go_simp
      refine (ldom_any _ _ _ _ _).mono ?_
      rintro e w5 ⟨rfl, hb5⟩
      rw [HL.out]
      go_wp2_with fail
      refine hK.out _ _ ?_ (fun hHeld2 => ?_)
      · try dsimp only
        (refine VdS.all ?_; (first | with_reducible assumption | with_reducible exact VdS.drew (by assumption) | with_reducible exact VdS.drew (And.right (by assumption)) | with_reducible exact VdS.next (by assumption) (by assumption) | with_reducible exact VdS.next (And.right (by assumption)) (by assumption)))
      clear hK K hHeld
      have hHeld := hHeld2; clear hHeld2
      try simp only [Act.put, List.getElem_toArray, List.getElem_cons_succ, List.getElem_cons_zero, List.setIfInBounds_toArray, List.set_cons_zero, List.set_cons_succ]
      refine wpAnyH_take (i := 17) (v := ?v17zB) rfl (by kernel_rfl) (by kernel_rfl) (by kernel_rfl) (fun _ _ _ h => h) (Or.inl ⟨by rfl, ?hy17zB⟩) (by assumption) ?rest17zB
      case hy17zB => intro w hSw; (try dsimp only at hSw); first | (go_simp; done) | (go_simp; with_reducible rfl)
      try simp only [Act.put, List.getElem_toArray, List.getElem_cons_succ, List.getElem_cons_zero, List.setIfInBounds_toArray, List.set_cons_zero, List.set_cons_succ]
      refine wpAnyH_take (i := 18) (v := ?v18zB) rfl (by kernel_rfl) (by kernel_rfl) (by kernel_rfl) (fun _ _ _ h => h) (Or.inl ⟨by rfl, ?hy18zB⟩) (by assumption) ?rest18zB
      case hy18zB => intro w hSw; (try dsimp only at hSw); first | (go_simp; done) | (go_simp; with_reducible rfl)
      try simp only [Act.put, List.getElem_toArray, List.getElem_cons_succ, List.getElem_cons_zero, List.setIfInBounds_toArray, List.set_cons_zero, List.set_cons_succ]
      refine wpAnyH_take (i := 19) (v := undef) rfl (by kernel_rfl) (by kernel_rfl) (by kernel_rfl) (fun _ _ _ h => h) (Or.inr ⟨by rfl, rfl⟩) (by assumption) ?rest19zB
      try simp only [Act.put, List.getElem_toArray, List.getElem_cons_succ, List.getElem_cons_zero, List.setIfInBounds_toArray, List.set_cons_zero, List.set_cons_succ]
      refine wpAnyH_take (i := 20) (v := undef) rfl (by kernel_rfl) (by kernel_rfl) (by kernel_rfl) (fun _ _ _ h => h) (Or.inr ⟨by rfl, rfl⟩) (by assumption) ?rest20zB
      try simp only [Act.put, List.getElem_toArray, List.getElem_cons_succ, List.getElem_cons_zero, List.setIfInBounds_toArray, List.set_cons_zero, List.set_cons_succ]
      refine wpAnyH_take (i := 21) (v := undef) rfl (by kernel_rfl) (by kernel_rfl) (by kernel_rfl) (fun _ _ _ h => h) (Or.inr ⟨by rfl, rfl⟩) (by assumption) ?rest21zB
      try simp only [Act.put, List.getElem_toArray, List.getElem_cons_succ, List.getElem_cons_zero, List.setIfInBounds_toArray, List.set_cons_zero, List.set_cons_succ]
      refine wpAnyH_take (i := 22) (v := undef) rfl (by kernel_rfl) (by kernel_rfl) (by kernel_rfl) (fun _ _ _ h => h) (Or.inr ⟨by rfl, rfl⟩) (by assumption) ?rest22zB
      try simp only [Act.put, List.getElem_toArray, List.getElem_cons_succ, List.getElem_cons_zero, List.setIfInBounds_toArray, List.set_cons_zero, List.set_cons_succ]
      refine wpAnyH_take (i := 23) (v := ?v23zB) rfl (by kernel_rfl) (by kernel_rfl) (by kernel_rfl) (fun _ _ _ h => h) (Or.inl ⟨by rfl, ?hy23zB⟩) (by assumption) ?rest23zB
      case hy23zB => intro w hSw; (try dsimp only at hSw); first | (go_simp; done) | (go_simp; with_reducible rfl)
      try simp only [Act.put, List.getElem_toArray, List.getElem_cons_succ, List.getElem_cons_zero, List.setIfInBounds_toArray, List.set_cons_zero, List.set_cons_succ]
      refine wpAnyH_take (i := 24) (v := ?v24zB) rfl (by kernel_rfl) (by kernel_rfl) (by kernel_rfl) (fun _ _ _ h => h) (Or.inl ⟨by rfl, ?hy24zB⟩) (by assumption) ?rest24zB
      case hy24zB => intro w hSw; (try dsimp only at hSw); first | (go_simp; done) | (go_simp; with_reducible rfl)
      try simp only [Act.put, List.getElem_toArray, List.getElem_cons_succ, List.getElem_cons_zero, List.setIfInBounds_toArray, List.set_cons_zero, List.set_cons_succ]
      refine wpAnyH_take (i := 25) (v := undef) rfl (by kernel_rfl) (by kernel_rfl) (by kernel_rfl) (fun _ _ _ h => h) (Or.inr ⟨by rfl, rfl⟩) (by assumption) ?rest25zB
      try simp only [Act.put, List.getElem_toArray, List.getElem_cons_succ, List.getElem_cons_zero, List.setIfInBounds_toArray, List.set_cons_zero, List.set_cons_succ]
      refine wpAnyH_take (i := 26) (v := undef) rfl (by kernel_rfl) (by kernel_rfl) (by kernel_rfl) (fun _ _ _ h => h) (Or.inr ⟨by rfl, rfl⟩) (by assumption) ?rest26zB
      try simp only [Act.put, List.getElem_toArray, List.getElem_cons_succ, List.getElem_cons_zero, List.setIfInBounds_toArray, List.set_cons_zero, List.set_cons_succ]
      refine wpAnyH_take (i := 27) (v := undef) rfl (by kernel_rfl) (by kernel_rfl) (by kernel_rfl) (fun _ _ _ h => h) (Or.inr ⟨by rfl, rfl⟩) (by assumption) ?rest27zB
      try simp only [Act.put, List.getElem_toArray, List.getElem_cons_succ, List.getElem_cons_zero, List.setIfInBounds_toArray, List.set_cons_zero, List.set_cons_succ]
      refine wpAnyH_take (i := 28) (v := undef) rfl (by kernel_rfl) (by kernel_rfl) (by kernel_rfl) (fun _ _ _ h => h) (Or.inr ⟨by rfl, rfl⟩) (by assumption) ?rest28zB
      try simp only [Act.put, List.getElem_toArray, List.getElem_cons_succ, List.getElem_cons_zero, List.setIfInBounds_toArray, List.set_cons_zero, List.set_cons_succ]
      refine wpAnyH_take (i := 29) (v := ?v29zB) rfl (by kernel_rfl) (by kernel_rfl) (by kernel_rfl) (fun _ _ _ h => h) (Or.inl ⟨by rfl, ?hy29zB⟩) (by assumption) ?rest29zB
      case hy29zB => intro w hSw; (try dsimp only at hSw); first | (go_simp; done) | (go_simp; with_reducible rfl)
      try simp only [Act.put, List.getElem_toArray, List.getElem_cons_succ, List.getElem_cons_zero, List.setIfInBounds_toArray, List.set_cons_zero, List.set_cons_succ]
      refine wpAnyH_take (i := 30) (v := ?v30zB) rfl (by kernel_rfl) (by kernel_rfl) (by kernel_rfl) (fun _ _ _ h => h) (Or.inl ⟨by rfl, ?hy30zB⟩) (by assumption) ?rest30zB
      case hy30zB => intro w hSw; (try dsimp only at hSw); first | (go_simp; done) | (go_simp; with_reducible rfl)
      try simp only [Act.put, List.getElem_toArray, List.getElem_cons_succ, List.getElem_cons_zero, List.setIfInBounds_toArray, List.set_cons_zero, List.set_cons_succ]
      refine wpAnyH_done (by kernel_rfl) ?_ _
      all_goals
        have HS9 := Lib.hid hHeld.2.below
        clear hHeld
        go_wp2_with fail
        go_ret
        exact ⟨by rw [HQ9.out]; rfl, by rw [hz]; exact Below.down HB.out HS9.out (by have := HB.out.size; omega)⟩
    | false =>
      cases G1 with
      | true =>
        have HQ9 := Lib.hid (show Q = true by rw [← HQ.out]; rfl)
        go_enter Try.func24, Try.ntmps24
        go_wp2_with fail
        generalize w.alloc (.cells #[.int .i64 c.fr, (.slice (some ⟨pb, pa, none⟩) n cap), vd, .int .i64 c.mj, vw, vg, .int .i64 c.se, .int .i64 c.qu, .int .i64 c.qt] 27) = w1 at *
        generalize hz : w.heap.size = y at *
        refine wp_region_held_drew (S := (fun w' => (w'.cell? ⟨y, 0, none⟩ = some (.int .i64 c.fr) ∧ w'.cell? ⟨y, 1, none⟩ = some (.slice (some ⟨pb, pa, none⟩) n cap) ∧ w'.cell? ⟨y, 2, none⟩ = some vd ∧ w'.cell? ⟨y, 3, none⟩ = some (.int .i64 c.mj) ∧ w'.cell? ⟨y, 4, none⟩ = some vw ∧ w'.cell? ⟨y, 5, none⟩ = some vg ∧ w'.cell? ⟨y, 6, none⟩ = some (.int .i64 c.se) ∧ w'.cell? ⟨y, 7, none⟩ = some (.int .i64 c.qu) ∧ w'.cell? ⟨y, 8, none⟩ = some (.int .i64 c.qt) ∧ w'.cell? ⟨pb, pa + i * 5, none⟩ = some (.int .i64 li) ∧ w'.cell? ⟨pb, pa + i * 5 + 1, none⟩ = some (.int .i64 ci) ∧ w'.cell? ⟨pb, pa + j * 5, none⟩ = some (.int .i64 lj) ∧ w'.cell? ⟨pb, pa + j * 5 + 1, none⟩ = some (.int .i64 cj)) ∧ VdS w1 c (.slice (some ⟨pb, pa, none⟩) n cap) vd vw vg y pb pa i j li ci lj cj w')) (by kernel_rfl) ?_ (fun hHeld => ?_)
        · try dsimp only
          (refine VdS.all ?_; (first | with_reducible assumption | with_reducible exact VdS.drew (by assumption) | with_reducible exact VdS.drew (And.right (by assumption)) | with_reducible exact VdS.next (by assumption) (by assumption) | with_reducible exact VdS.next (And.right (by assumption)) (by assumption)))
        refine wpAnyH_take (i := 0) (v := ?v0zC) rfl (by kernel_rfl) (by kernel_rfl) (by kernel_rfl) (fun _ _ _ h => h) (Or.inl ⟨by rfl, ?hy0zC⟩) (by assumption) ?rest0zC
        case hy0zC => intro w hSw; (try dsimp only at hSw); first | (go_simp; done) | (go_simp; with_reducible rfl)
        try simp only [Act.put, List.getElem_toArray, List.getElem_cons_succ, List.getElem_cons_zero, List.setIfInBounds_toArray, List.set_cons_zero, List.set_cons_succ]
        refine wpAnyH_take (i := 1) (v := ?v1zC) rfl (by kernel_rfl) (by kernel_rfl) (by kernel_rfl) (fun _ _ _ h => h) (Or.inl ⟨by rfl, ?hy1zC⟩) (by assumption) ?rest1zC
        case hy1zC => intro w hSw; (try dsimp only at hSw); first | (go_simp; done) | (go_simp; with_reducible rfl)
        try simp only [Act.put, List.getElem_toArray, List.getElem_cons_succ, List.getElem_cons_zero, List.setIfInBounds_toArray, List.set_cons_zero, List.set_cons_succ]
        refine wpAnyH_take (i := 2) (v := ?v2zC) rfl (by kernel_rfl) (by kernel_rfl) (by kernel_rfl) (fun _ _ _ h => h) (Or.inl ⟨by rfl, ?hy2zC⟩) (by assumption) ?rest2zC
        case hy2zC => intro w hSw; (try dsimp only at hSw); first | (go_simp; done) | (go_simp; with_reducible rfl)
        try simp only [Act.put, List.getElem_toArray, List.getElem_cons_succ, List.getElem_cons_zero, List.setIfInBounds_toArray, List.set_cons_zero, List.set_cons_succ]
        refine wpAnyH_take (i := 3) (v := ?v3zC) rfl (by kernel_rfl) (by kernel_rfl) (by kernel_rfl) (fun _ _ _ h => h) (Or.inl ⟨by rfl, ?hy3zC⟩) (by assumption) ?rest3zC
        case hy3zC => intro w hSw; (try dsimp only at hSw); first | (go_simp; done) | (go_simp; with_reducible rfl)
        try simp only [Act.put, List.getElem_toArray, List.getElem_cons_succ, List.getElem_cons_zero, List.setIfInBounds_toArray, List.set_cons_zero, List.set_cons_succ]
        refine wpAnyH_take (i := 4) (v := ?v4zC) rfl (by kernel_rfl) (by kernel_rfl) (by kernel_rfl) (fun _ _ _ h => h) (Or.inl ⟨by rfl, ?hy4zC⟩) (by assumption) ?rest4zC
        case hy4zC => intro w hSw; (try dsimp only at hSw); first | (go_simp; done) | (go_simp; with_reducible rfl)
        try simp only [Act.put, List.getElem_toArray, List.getElem_cons_succ, List.getElem_cons_zero, List.setIfInBounds_toArray, List.set_cons_zero, List.set_cons_succ]
        refine wpAnyH_take (i := 5) (v := ?v5zC) rfl (by kernel_rfl) (by kernel_rfl) (by kernel_rfl) (fun _ _ _ h => h) (Or.inl ⟨by rfl, ?hy5zC⟩) (by assumption) ?rest5zC
        case hy5zC => intro w hSw; (try dsimp only at hSw); first | (go_simp; done) | (go_simp; with_reducible rfl)
        try simp only [Act.put, List.getElem_toArray, List.getElem_cons_succ, List.getElem_cons_zero, List.setIfInBounds_toArray, List.set_cons_zero, List.set_cons_succ]
        refine wpAnyH_take (i := 6) (v := ?v6zC) rfl (by kernel_rfl) (by kernel_rfl) (by kernel_rfl) (fun _ _ _ h => h) (Or.inl ⟨by rfl, ?hy6zC⟩) (by assumption) ?rest6zC
        case hy6zC => intro w hSw; (try dsimp only at hSw); first | (go_simp; done) | (go_simp; with_reducible rfl)
        try simp only [Act.put, List.getElem_toArray, List.getElem_cons_succ, List.getElem_cons_zero, List.setIfInBounds_toArray, List.set_cons_zero, List.set_cons_succ]
        refine wpAnyH_take (i := 7) (v := ?v7zC) rfl (by kernel_rfl) (by kernel_rfl) (by kernel_rfl) (fun _ _ _ h => h) (Or.inl ⟨by rfl, ?hy7zC⟩) (by assumption) ?rest7zC
        case hy7zC => intro w hSw; (try dsimp only at hSw); first | (go_simp; done) | (go_simp; with_reducible rfl)
        try simp only [Act.put, List.getElem_toArray, List.getElem_cons_succ, List.getElem_cons_zero, List.setIfInBounds_toArray, List.set_cons_zero, List.set_cons_succ]
        refine wpAnyH_take (i := 8) (v := ?v8zC) rfl (by kernel_rfl) (by kernel_rfl) (by kernel_rfl) (fun _ _ _ h => h) (Or.inl ⟨by rfl, ?hy8zC⟩) (by assumption) ?rest8zC
        case hy8zC => intro w hSw; (try dsimp only at hSw); first | (go_simp; done) | (go_simp; with_reducible rfl)
        try simp only [Act.put, List.getElem_toArray, List.getElem_cons_succ, List.getElem_cons_zero, List.setIfInBounds_toArray, List.set_cons_zero, List.set_cons_succ]
        refine wpAnyH_take (i := 9) (v := ?v9zC) rfl (by kernel_rfl) (by kernel_rfl) (by kernel_rfl) (fun _ _ _ h => h) (Or.inl ⟨by rfl, ?hy9zC⟩) (by assumption) ?rest9zC
        case hy9zC => intro w hSw; (try dsimp only at hSw); first | (go_simp; done) | (go_simp; with_reducible rfl)
        try simp only [Act.put, List.getElem_toArray, List.getElem_cons_succ, List.getElem_cons_zero, List.setIfInBounds_toArray, List.set_cons_zero, List.set_cons_succ]
        refine wpAnyH_take (i := 10) (v := ?v10zC) rfl (by kernel_rfl) (by kernel_rfl) (by kernel_rfl) (fun _ _ _ h => h) (Or.inl ⟨by rfl, ?hy10zC⟩) (by assumption) ?rest10zC
        case hy10zC => intro w hSw; (try dsimp only at hSw); first | (go_simp; done) | (go_simp; with_reducible rfl)
        try simp only [Act.put, List.getElem_toArray, List.getElem_cons_succ, List.getElem_cons_zero, List.setIfInBounds_toArray, List.set_cons_zero, List.set_cons_succ]
        refine wpAnyH_take (i := 11) (v := ?v11zC) rfl (by kernel_rfl) (by kernel_rfl) (by kernel_rfl) (fun _ _ _ h => h) (Or.inl ⟨by rfl, ?hy11zC⟩) (by assumption) ?rest11zC
        case hy11zC => intro w hSw; (try dsimp only at hSw); first | (go_simp; done) | (go_simp; with_reducible rfl)
        try simp only [Act.put, List.getElem_toArray, List.getElem_cons_succ, List.getElem_cons_zero, List.setIfInBounds_toArray, List.set_cons_zero, List.set_cons_succ]
        refine wpAnyH_take (i := 12) (v := ?v12zC) rfl (by kernel_rfl) (by kernel_rfl) (by kernel_rfl) (fun _ _ _ h => h) (Or.inl ⟨by rfl, ?hy12zC⟩) (by assumption) ?rest12zC
        case hy12zC => intro w hSw; (try dsimp only at hSw); first | (go_simp; done) | (go_simp; with_reducible rfl)
        try simp only [Act.put, List.getElem_toArray, List.getElem_cons_succ, List.getElem_cons_zero, List.setIfInBounds_toArray, List.set_cons_zero, List.set_cons_succ]
        refine wpAnyH_take (i := 13) (v := ?v13zC) rfl (by kernel_rfl) (by kernel_rfl) (by kernel_rfl) (fun _ _ _ h => h) (Or.inl ⟨by rfl, ?hy13zC⟩) (by assumption) ?rest13zC
        case hy13zC => intro w hSw; (try dsimp only at hSw); first | (go_simp; done) | (go_simp; with_reducible rfl)
        try simp only [Act.put, List.getElem_toArray, List.getElem_cons_succ, List.getElem_cons_zero, List.setIfInBounds_toArray, List.set_cons_zero, List.set_cons_succ]
        refine wpAnyH_take (i := 14) (v := ?v14zC) rfl (by kernel_rfl) (by kernel_rfl) (by kernel_rfl) (fun _ _ _ h => h) (Or.inl ⟨by rfl, ?hy14zC⟩) (by assumption) ?rest14zC
        case hy14zC => intro w hSw; (try dsimp only at hSw); first | (go_simp; done) | (go_simp; with_reducible rfl)
        try simp only [Act.put, List.getElem_toArray, List.getElem_cons_succ, List.getElem_cons_zero, List.setIfInBounds_toArray, List.set_cons_zero, List.set_cons_succ]
        refine wpAnyH_take (i := 15) (v := ?v15zC) rfl (by kernel_rfl) (by kernel_rfl) (by kernel_rfl) (fun _ _ _ h => h) (Or.inl ⟨by rfl, ?hy15zC⟩) (by assumption) ?rest15zC
        case hy15zC => intro w hSw; (try dsimp only at hSw); first | (go_simp; done) | (go_simp; with_reducible rfl)
        try simp only [Act.put, List.getElem_toArray, List.getElem_cons_succ, List.getElem_cons_zero, List.setIfInBounds_toArray, List.set_cons_zero, List.set_cons_succ]
        refine wpAnyH_ready (rs := [16]) (by kernel_rfl) (by simp) ?_
        refine AllReadyH.cons rfl (fun K hK => ?_) AllReadyH.nil
        go_simp
        refine (ldom_any _ _ _ _ _).mono ?_
        rintro e w5 ⟨rfl, hb5⟩
        rw [HL.out]
        go_wp2_with fail
        refine hK.out _ _ ?_ (fun hHeld2 => ?_)
        · try dsimp only
          (refine VdS.all ?_; (first | with_reducible assumption | with_reducible exact VdS.drew (by assumption) | with_reducible exact VdS.drew (And.right (by assumption)) | with_reducible exact VdS.next (by assumption) (by assumption) | with_reducible exact VdS.next (And.right (by assumption)) (by assumption)))
        clear hK K hHeld
        have hHeld := hHeld2; clear hHeld2
        try simp only [Act.put, List.getElem_toArray, List.getElem_cons_succ, List.getElem_cons_zero, List.setIfInBounds_toArray, List.set_cons_zero, List.set_cons_succ]
        refine wpAnyH_take (i := 17) (v := ?v17zC) rfl (by kernel_rfl) (by kernel_rfl) (by kernel_rfl) (fun _ _ _ h => h) (Or.inl ⟨by rfl, ?hy17zC⟩) (by assumption) ?rest17zC
        case hy17zC => intro w hSw; (try dsimp only at hSw); first | (go_simp; done) | (go_simp; with_reducible rfl)
        try simp only [Act.put, List.getElem_toArray, List.getElem_cons_succ, List.getElem_cons_zero, List.setIfInBounds_toArray, List.set_cons_zero, List.set_cons_succ]
        refine wpAnyH_take (i := 18) (v := ?v18zC) rfl (by kernel_rfl) (by kernel_rfl) (by kernel_rfl) (fun _ _ _ h => h) (Or.inl ⟨by rfl, ?hy18zC⟩) (by assumption) ?rest18zC
        case hy18zC => intro w hSw; (try dsimp only at hSw); first | (go_simp; done) | (go_simp; with_reducible rfl)
        try simp only [Act.put, List.getElem_toArray, List.getElem_cons_succ, List.getElem_cons_zero, List.setIfInBounds_toArray, List.set_cons_zero, List.set_cons_succ]
        refine wpAnyH_take (i := 19) (v := ?v19zC) rfl (by kernel_rfl) (by kernel_rfl) (by kernel_rfl) (fun _ _ _ h => h) (Or.inl ⟨by rfl, ?hy19zC⟩) (by assumption) ?rest19zC
        case hy19zC => intro w hSw; (try dsimp only at hSw); first | (go_simp; done) | (go_simp; with_reducible rfl)
        try simp only [Act.put, List.getElem_toArray, List.getElem_cons_succ, List.getElem_cons_zero, List.setIfInBounds_toArray, List.set_cons_zero, List.set_cons_succ]
        refine wpAnyH_take (i := 20) (v := ?v20zC) rfl (by kernel_rfl) (by kernel_rfl) (by kernel_rfl) (fun _ _ _ h => h) (Or.inl ⟨by rfl, ?hy20zC⟩) (by assumption) ?rest20zC
        case hy20zC => intro w hSw; (try dsimp only at hSw); first | (go_simp; done) | (go_simp; with_reducible rfl)
        try simp only [Act.put, List.getElem_toArray, List.getElem_cons_succ, List.getElem_cons_zero, List.setIfInBounds_toArray, List.set_cons_zero, List.set_cons_succ]
        refine wpAnyH_take (i := 21) (v := ?v21zC) rfl (by kernel_rfl) (by kernel_rfl) (by kernel_rfl) (fun _ _ _ h => h) (Or.inl ⟨by rfl, ?hy21zC⟩) (by assumption) ?rest21zC
        case hy21zC => intro w hSw; (try dsimp only at hSw); first | (go_simp; done) | (go_simp; with_reducible rfl)
        try simp only [Act.put, List.getElem_toArray, List.getElem_cons_succ, List.getElem_cons_zero, List.setIfInBounds_toArray, List.set_cons_zero, List.set_cons_succ]
        refine wpAnyH_ready (rs := [22]) (by kernel_rfl) (by simp) ?_
        refine AllReadyH.cons rfl (fun K hK => ?_) AllReadyH.nil
        go_simp
        refine (vgrants_r (hHeld.2.ca) i (j : Int) (by rw [HN.out]; exact hi)).mono ?_
        rintro e w6 ⟨rfl, hb6⟩
        rw [HG1.out]
        go_wp2_with fail
        refine hK.out _ _ ?_ (fun hHeld2 => ?_)
        · try dsimp only
          (refine VdS.all ?_; (first | with_reducible assumption | with_reducible exact VdS.drew (by assumption) | with_reducible exact VdS.drew (And.right (by assumption)) | with_reducible exact VdS.next (by assumption) (by assumption) | with_reducible exact VdS.next (And.right (by assumption)) (by assumption)))
        clear hK K hHeld
        have hHeld := hHeld2; clear hHeld2
        try simp only [Act.put, List.getElem_toArray, List.getElem_cons_succ, List.getElem_cons_zero, List.setIfInBounds_toArray, List.set_cons_zero, List.set_cons_succ]
        refine wpAnyH_take (i := 23) (v := ?v23zC) rfl (by kernel_rfl) (by kernel_rfl) (by kernel_rfl) (fun _ _ _ h => h) (Or.inl ⟨by rfl, ?hy23zC⟩) (by assumption) ?rest23zC
        case hy23zC => intro w hSw; (try dsimp only at hSw); first | (go_simp; done) | (go_simp; with_reducible rfl)
        try simp only [Act.put, List.getElem_toArray, List.getElem_cons_succ, List.getElem_cons_zero, List.setIfInBounds_toArray, List.set_cons_zero, List.set_cons_succ]
        refine wpAnyH_take (i := 24) (v := ?v24zC) rfl (by kernel_rfl) (by kernel_rfl) (by kernel_rfl) (fun _ _ _ h => h) (Or.inl ⟨by rfl, ?hy24zC⟩) (by assumption) ?rest24zC
        case hy24zC => intro w hSw; (try dsimp only at hSw); first | (go_simp; done) | (go_simp; with_reducible rfl)
        try simp only [Act.put, List.getElem_toArray, List.getElem_cons_succ, List.getElem_cons_zero, List.setIfInBounds_toArray, List.set_cons_zero, List.set_cons_succ]
        refine wpAnyH_take (i := 25) (v := undef) rfl (by kernel_rfl) (by kernel_rfl) (by kernel_rfl) (fun _ _ _ h => h) (Or.inr ⟨by rfl, rfl⟩) (by assumption) ?rest25zC
        try simp only [Act.put, List.getElem_toArray, List.getElem_cons_succ, List.getElem_cons_zero, List.setIfInBounds_toArray, List.set_cons_zero, List.set_cons_succ]
        refine wpAnyH_take (i := 26) (v := undef) rfl (by kernel_rfl) (by kernel_rfl) (by kernel_rfl) (fun _ _ _ h => h) (Or.inr ⟨by rfl, rfl⟩) (by assumption) ?rest26zC
        try simp only [Act.put, List.getElem_toArray, List.getElem_cons_succ, List.getElem_cons_zero, List.setIfInBounds_toArray, List.set_cons_zero, List.set_cons_succ]
        refine wpAnyH_take (i := 27) (v := undef) rfl (by kernel_rfl) (by kernel_rfl) (by kernel_rfl) (fun _ _ _ h => h) (Or.inr ⟨by rfl, rfl⟩) (by assumption) ?rest27zC
        try simp only [Act.put, List.getElem_toArray, List.getElem_cons_succ, List.getElem_cons_zero, List.setIfInBounds_toArray, List.set_cons_zero, List.set_cons_succ]
        refine wpAnyH_take (i := 28) (v := undef) rfl (by kernel_rfl) (by kernel_rfl) (by kernel_rfl) (fun _ _ _ h => h) (Or.inr ⟨by rfl, rfl⟩) (by assumption) ?rest28zC
        try simp only [Act.put, List.getElem_toArray, List.getElem_cons_succ, List.getElem_cons_zero, List.setIfInBounds_toArray, List.set_cons_zero, List.set_cons_succ]
        refine wpAnyH_take (i := 29) (v := ?v29zC) rfl (by kernel_rfl) (by kernel_rfl) (by kernel_rfl) (fun _ _ _ h => h) (Or.inl ⟨by rfl, ?hy29zC⟩) (by assumption) ?rest29zC
        case hy29zC => intro w hSw; (try dsimp only at hSw); first | (go_simp; done) | (go_simp; with_reducible rfl)
        try simp only [Act.put, List.getElem_toArray, List.getElem_cons_succ, List.getElem_cons_zero, List.setIfInBounds_toArray, List.set_cons_zero, List.set_cons_succ]
        refine wpAnyH_take (i := 30) (v := ?v30zC) rfl (by kernel_rfl) (by kernel_rfl) (by kernel_rfl) (fun _ _ _ h => h) (Or.inl ⟨by rfl, ?hy30zC⟩) (by assumption) ?rest30zC
        case hy30zC => intro w hSw; (try dsimp only at hSw); first | (go_simp; done) | (go_simp; with_reducible rfl)
        try simp only [Act.put, List.getElem_toArray, List.getElem_cons_succ, List.getElem_cons_zero, List.setIfInBounds_toArray, List.set_cons_zero, List.set_cons_succ]
        refine wpAnyH_done (by kernel_rfl) ?_ _
        all_goals
          have HS9 := Lib.hid hHeld.2.below
          clear hHeld
          go_wp2_with fail
          go_ret
          exact ⟨by rw [HQ9.out]; rfl, by rw [hz]; exact Below.down HB.out HS9.out (by have := HB.out.size; omega)⟩
      | false =>
        have HQ9 := Lib.hid (show Q = G2 by rw [← HQ.out]; rfl)
        go_enter Try.func24, Try.ntmps24
        go_wp2_with fail
        generalize w.alloc (.cells #[.int .i64 c.fr, (.slice (some ⟨pb, pa, none⟩) n cap), vd, .int .i64 c.mj, vw, vg, .int .i64 c.se, .int .i64 c.qu, .int .i64 c.qt] 27) = w1 at *
        generalize hz : w.heap.size = y at *
        refine wp_region_held_drew (S := (fun w' => (w'.cell? ⟨y, 0, none⟩ = some (.int .i64 c.fr) ∧ w'.cell? ⟨y, 1, none⟩ = some (.slice (some ⟨pb, pa, none⟩) n cap) ∧ w'.cell? ⟨y, 2, none⟩ = some vd ∧ w'.cell? ⟨y, 3, none⟩ = some (.int .i64 c.mj) ∧ w'.cell? ⟨y, 4, none⟩ = some vw ∧ w'.cell? ⟨y, 5, none⟩ = some vg ∧ w'.cell? ⟨y, 6, none⟩ = some (.int .i64 c.se) ∧ w'.cell? ⟨y, 7, none⟩ = some (.int .i64 c.qu) ∧ w'.cell? ⟨y, 8, none⟩ = some (.int .i64 c.qt) ∧ w'.cell? ⟨pb, pa + i * 5, none⟩ = some (.int .i64 li) ∧ w'.cell? ⟨pb, pa + i * 5 + 1, none⟩ = some (.int .i64 ci) ∧ w'.cell? ⟨pb, pa + j * 5, none⟩ = some (.int .i64 lj) ∧ w'.cell? ⟨pb, pa + j * 5 + 1, none⟩ = some (.int .i64 cj)) ∧ VdS w1 c (.slice (some ⟨pb, pa, none⟩) n cap) vd vw vg y pb pa i j li ci lj cj w')) (by kernel_rfl) ?_ (fun hHeld => ?_)
        · try dsimp only
          (refine VdS.all ?_; (first | with_reducible assumption | with_reducible exact VdS.drew (by assumption) | with_reducible exact VdS.drew (And.right (by assumption)) | with_reducible exact VdS.next (by assumption) (by assumption) | with_reducible exact VdS.next (And.right (by assumption)) (by assumption)))
        refine wpAnyH_take (i := 0) (v := ?v0zD) rfl (by kernel_rfl) (by kernel_rfl) (by kernel_rfl) (fun _ _ _ h => h) (Or.inl ⟨by rfl, ?hy0zD⟩) (by assumption) ?rest0zD
        case hy0zD => intro w hSw; (try dsimp only at hSw); first | (go_simp; done) | (go_simp; with_reducible rfl)
        try simp only [Act.put, List.getElem_toArray, List.getElem_cons_succ, List.getElem_cons_zero, List.setIfInBounds_toArray, List.set_cons_zero, List.set_cons_succ]
        refine wpAnyH_take (i := 1) (v := ?v1zD) rfl (by kernel_rfl) (by kernel_rfl) (by kernel_rfl) (fun _ _ _ h => h) (Or.inl ⟨by rfl, ?hy1zD⟩) (by assumption) ?rest1zD
        case hy1zD => intro w hSw; (try dsimp only at hSw); first | (go_simp; done) | (go_simp; with_reducible rfl)
        try simp only [Act.put, List.getElem_toArray, List.getElem_cons_succ, List.getElem_cons_zero, List.setIfInBounds_toArray, List.set_cons_zero, List.set_cons_succ]
        refine wpAnyH_take (i := 2) (v := ?v2zD) rfl (by kernel_rfl) (by kernel_rfl) (by kernel_rfl) (fun _ _ _ h => h) (Or.inl ⟨by rfl, ?hy2zD⟩) (by assumption) ?rest2zD
        case hy2zD => intro w hSw; (try dsimp only at hSw); first | (go_simp; done) | (go_simp; with_reducible rfl)
        try simp only [Act.put, List.getElem_toArray, List.getElem_cons_succ, List.getElem_cons_zero, List.setIfInBounds_toArray, List.set_cons_zero, List.set_cons_succ]
        refine wpAnyH_take (i := 3) (v := ?v3zD) rfl (by kernel_rfl) (by kernel_rfl) (by kernel_rfl) (fun _ _ _ h => h) (Or.inl ⟨by rfl, ?hy3zD⟩) (by assumption) ?rest3zD
        case hy3zD => intro w hSw; (try dsimp only at hSw); first | (go_simp; done) | (go_simp; with_reducible rfl)
        try simp only [Act.put, List.getElem_toArray, List.getElem_cons_succ, List.getElem_cons_zero, List.setIfInBounds_toArray, List.set_cons_zero, List.set_cons_succ]
        refine wpAnyH_take (i := 4) (v := ?v4zD) rfl (by kernel_rfl) (by kernel_rfl) (by kernel_rfl) (fun _ _ _ h => h) (Or.inl ⟨by rfl, ?hy4zD⟩) (by assumption) ?rest4zD
        case hy4zD => intro w hSw; (try dsimp only at hSw); first | (go_simp; done) | (go_simp; with_reducible rfl)
        try simp only [Act.put, List.getElem_toArray, List.getElem_cons_succ, List.getElem_cons_zero, List.setIfInBounds_toArray, List.set_cons_zero, List.set_cons_succ]
        refine wpAnyH_take (i := 5) (v := ?v5zD) rfl (by kernel_rfl) (by kernel_rfl) (by kernel_rfl) (fun _ _ _ h => h) (Or.inl ⟨by rfl, ?hy5zD⟩) (by assumption) ?rest5zD
        case hy5zD => intro w hSw; (try dsimp only at hSw); first | (go_simp; done) | (go_simp; with_reducible rfl)
        try simp only [Act.put, List.getElem_toArray, List.getElem_cons_succ, List.getElem_cons_zero, List.setIfInBounds_toArray, List.set_cons_zero, List.set_cons_succ]
        refine wpAnyH_take (i := 6) (v := ?v6zD) rfl (by kernel_rfl) (by kernel_rfl) (by kernel_rfl) (fun _ _ _ h => h) (Or.inl ⟨by rfl, ?hy6zD⟩) (by assumption) ?rest6zD
        case hy6zD => intro w hSw; (try dsimp only at hSw); first | (go_simp; done) | (go_simp; with_reducible rfl)
        try simp only [Act.put, List.getElem_toArray, List.getElem_cons_succ, List.getElem_cons_zero, List.setIfInBounds_toArray, List.set_cons_zero, List.set_cons_succ]
        refine wpAnyH_take (i := 7) (v := ?v7zD) rfl (by kernel_rfl) (by kernel_rfl) (by kernel_rfl) (fun _ _ _ h => h) (Or.inl ⟨by rfl, ?hy7zD⟩) (by assumption) ?rest7zD
        case hy7zD => intro w hSw; (try dsimp only at hSw); first | (go_simp; done) | (go_simp; with_reducible rfl)
        try simp only [Act.put, List.getElem_toArray, List.getElem_cons_succ, List.getElem_cons_zero, List.setIfInBounds_toArray, List.set_cons_zero, List.set_cons_succ]
        refine wpAnyH_take (i := 8) (v := ?v8zD) rfl (by kernel_rfl) (by kernel_rfl) (by kernel_rfl) (fun _ _ _ h => h) (Or.inl ⟨by rfl, ?hy8zD⟩) (by assumption) ?rest8zD
        case hy8zD => intro w hSw; (try dsimp only at hSw); first | (go_simp; done) | (go_simp; with_reducible rfl)
        try simp only [Act.put, List.getElem_toArray, List.getElem_cons_succ, List.getElem_cons_zero, List.setIfInBounds_toArray, List.set_cons_zero, List.set_cons_succ]
        refine wpAnyH_take (i := 9) (v := ?v9zD) rfl (by kernel_rfl) (by kernel_rfl) (by kernel_rfl) (fun _ _ _ h => h) (Or.inl ⟨by rfl, ?hy9zD⟩) (by assumption) ?rest9zD
        case hy9zD => intro w hSw; (try dsimp only at hSw); first | (go_simp; done) | (go_simp; with_reducible rfl)
        try simp only [Act.put, List.getElem_toArray, List.getElem_cons_succ, List.getElem_cons_zero, List.setIfInBounds_toArray, List.set_cons_zero, List.set_cons_succ]
        refine wpAnyH_take (i := 10) (v := ?v10zD) rfl (by kernel_rfl) (by kernel_rfl) (by kernel_rfl) (fun _ _ _ h => h) (Or.inl ⟨by rfl, ?hy10zD⟩) (by assumption) ?rest10zD
        case hy10zD => intro w hSw; (try dsimp only at hSw); first | (go_simp; done) | (go_simp; with_reducible rfl)
        try simp only [Act.put, List.getElem_toArray, List.getElem_cons_succ, List.getElem_cons_zero, List.setIfInBounds_toArray, List.set_cons_zero, List.set_cons_succ]
        refine wpAnyH_take (i := 11) (v := ?v11zD) rfl (by kernel_rfl) (by kernel_rfl) (by kernel_rfl) (fun _ _ _ h => h) (Or.inl ⟨by rfl, ?hy11zD⟩) (by assumption) ?rest11zD
        case hy11zD => intro w hSw; (try dsimp only at hSw); first | (go_simp; done) | (go_simp; with_reducible rfl)
        try simp only [Act.put, List.getElem_toArray, List.getElem_cons_succ, List.getElem_cons_zero, List.setIfInBounds_toArray, List.set_cons_zero, List.set_cons_succ]
        refine wpAnyH_take (i := 12) (v := ?v12zD) rfl (by kernel_rfl) (by kernel_rfl) (by kernel_rfl) (fun _ _ _ h => h) (Or.inl ⟨by rfl, ?hy12zD⟩) (by assumption) ?rest12zD
        case hy12zD => intro w hSw; (try dsimp only at hSw); first | (go_simp; done) | (go_simp; with_reducible rfl)
        try simp only [Act.put, List.getElem_toArray, List.getElem_cons_succ, List.getElem_cons_zero, List.setIfInBounds_toArray, List.set_cons_zero, List.set_cons_succ]
        refine wpAnyH_take (i := 13) (v := ?v13zD) rfl (by kernel_rfl) (by kernel_rfl) (by kernel_rfl) (fun _ _ _ h => h) (Or.inl ⟨by rfl, ?hy13zD⟩) (by assumption) ?rest13zD
        case hy13zD => intro w hSw; (try dsimp only at hSw); first | (go_simp; done) | (go_simp; with_reducible rfl)
        try simp only [Act.put, List.getElem_toArray, List.getElem_cons_succ, List.getElem_cons_zero, List.setIfInBounds_toArray, List.set_cons_zero, List.set_cons_succ]
        refine wpAnyH_take (i := 14) (v := ?v14zD) rfl (by kernel_rfl) (by kernel_rfl) (by kernel_rfl) (fun _ _ _ h => h) (Or.inl ⟨by rfl, ?hy14zD⟩) (by assumption) ?rest14zD
        case hy14zD => intro w hSw; (try dsimp only at hSw); first | (go_simp; done) | (go_simp; with_reducible rfl)
        try simp only [Act.put, List.getElem_toArray, List.getElem_cons_succ, List.getElem_cons_zero, List.setIfInBounds_toArray, List.set_cons_zero, List.set_cons_succ]
        refine wpAnyH_take (i := 15) (v := ?v15zD) rfl (by kernel_rfl) (by kernel_rfl) (by kernel_rfl) (fun _ _ _ h => h) (Or.inl ⟨by rfl, ?hy15zD⟩) (by assumption) ?rest15zD
        case hy15zD => intro w hSw; (try dsimp only at hSw); first | (go_simp; done) | (go_simp; with_reducible rfl)
        try simp only [Act.put, List.getElem_toArray, List.getElem_cons_succ, List.getElem_cons_zero, List.setIfInBounds_toArray, List.set_cons_zero, List.set_cons_succ]
        refine wpAnyH_ready (rs := [16]) (by kernel_rfl) (by simp) ?_
        refine AllReadyH.cons rfl (fun K hK => ?_) AllReadyH.nil
        go_simp
        refine (ldom_any _ _ _ _ _).mono ?_
        rintro e w5 ⟨rfl, hb5⟩
        rw [HL.out]
        go_wp2_with fail
        refine hK.out _ _ ?_ (fun hHeld2 => ?_)
        · try dsimp only
          (refine VdS.all ?_; (first | with_reducible assumption | with_reducible exact VdS.drew (by assumption) | with_reducible exact VdS.drew (And.right (by assumption)) | with_reducible exact VdS.next (by assumption) (by assumption) | with_reducible exact VdS.next (And.right (by assumption)) (by assumption)))
        clear hK K hHeld
        have hHeld := hHeld2; clear hHeld2
        try simp only [Act.put, List.getElem_toArray, List.getElem_cons_succ, List.getElem_cons_zero, List.setIfInBounds_toArray, List.set_cons_zero, List.set_cons_succ]
        refine wpAnyH_take (i := 17) (v := ?v17zD) rfl (by kernel_rfl) (by kernel_rfl) (by kernel_rfl) (fun _ _ _ h => h) (Or.inl ⟨by rfl, ?hy17zD⟩) (by assumption) ?rest17zD
        case hy17zD => intro w hSw; (try dsimp only at hSw); first | (go_simp; done) | (go_simp; with_reducible rfl)
        try simp only [Act.put, List.getElem_toArray, List.getElem_cons_succ, List.getElem_cons_zero, List.setIfInBounds_toArray, List.set_cons_zero, List.set_cons_succ]
        refine wpAnyH_take (i := 18) (v := ?v18zD) rfl (by kernel_rfl) (by kernel_rfl) (by kernel_rfl) (fun _ _ _ h => h) (Or.inl ⟨by rfl, ?hy18zD⟩) (by assumption) ?rest18zD
        case hy18zD => intro w hSw; (try dsimp only at hSw); first | (go_simp; done) | (go_simp; with_reducible rfl)
        try simp only [Act.put, List.getElem_toArray, List.getElem_cons_succ, List.getElem_cons_zero, List.setIfInBounds_toArray, List.set_cons_zero, List.set_cons_succ]
        refine wpAnyH_take (i := 19) (v := ?v19zD) rfl (by kernel_rfl) (by kernel_rfl) (by kernel_rfl) (fun _ _ _ h => h) (Or.inl ⟨by rfl, ?hy19zD⟩) (by assumption) ?rest19zD
        case hy19zD => intro w hSw; (try dsimp only at hSw); first | (go_simp; done) | (go_simp; with_reducible rfl)
        try simp only [Act.put, List.getElem_toArray, List.getElem_cons_succ, List.getElem_cons_zero, List.setIfInBounds_toArray, List.set_cons_zero, List.set_cons_succ]
        refine wpAnyH_take (i := 20) (v := ?v20zD) rfl (by kernel_rfl) (by kernel_rfl) (by kernel_rfl) (fun _ _ _ h => h) (Or.inl ⟨by rfl, ?hy20zD⟩) (by assumption) ?rest20zD
        case hy20zD => intro w hSw; (try dsimp only at hSw); first | (go_simp; done) | (go_simp; with_reducible rfl)
        try simp only [Act.put, List.getElem_toArray, List.getElem_cons_succ, List.getElem_cons_zero, List.setIfInBounds_toArray, List.set_cons_zero, List.set_cons_succ]
        refine wpAnyH_take (i := 21) (v := ?v21zD) rfl (by kernel_rfl) (by kernel_rfl) (by kernel_rfl) (fun _ _ _ h => h) (Or.inl ⟨by rfl, ?hy21zD⟩) (by assumption) ?rest21zD
        case hy21zD => intro w hSw; (try dsimp only at hSw); first | (go_simp; done) | (go_simp; with_reducible rfl)
        try simp only [Act.put, List.getElem_toArray, List.getElem_cons_succ, List.getElem_cons_zero, List.setIfInBounds_toArray, List.set_cons_zero, List.set_cons_succ]
        refine wpAnyH_ready (rs := [22]) (by kernel_rfl) (by simp) ?_
        refine AllReadyH.cons rfl (fun K hK => ?_) AllReadyH.nil
        go_simp
        refine (vgrants_r (hHeld.2.ca) i (j : Int) (by rw [HN.out]; exact hi)).mono ?_
        rintro e w6 ⟨rfl, hb6⟩
        rw [HG1.out]
        go_wp2_with fail
        refine hK.out _ _ ?_ (fun hHeld2 => ?_)
        · try dsimp only
          (refine VdS.all ?_; (first | with_reducible assumption | with_reducible exact VdS.drew (by assumption) | with_reducible exact VdS.drew (And.right (by assumption)) | with_reducible exact VdS.next (by assumption) (by assumption) | with_reducible exact VdS.next (And.right (by assumption)) (by assumption)))
        clear hK K hHeld
        have hHeld := hHeld2; clear hHeld2
        try simp only [Act.put, List.getElem_toArray, List.getElem_cons_succ, List.getElem_cons_zero, List.setIfInBounds_toArray, List.set_cons_zero, List.set_cons_succ]
        refine wpAnyH_take (i := 23) (v := ?v23zD) rfl (by kernel_rfl) (by kernel_rfl) (by kernel_rfl) (fun _ _ _ h => h) (Or.inl ⟨by rfl, ?hy23zD⟩) (by assumption) ?rest23zD
        case hy23zD => intro w hSw; (try dsimp only at hSw); first | (go_simp; done) | (go_simp; with_reducible rfl)
        try simp only [Act.put, List.getElem_toArray, List.getElem_cons_succ, List.getElem_cons_zero, List.setIfInBounds_toArray, List.set_cons_zero, List.set_cons_succ]
        refine wpAnyH_take (i := 24) (v := ?v24zD) rfl (by kernel_rfl) (by kernel_rfl) (by kernel_rfl) (fun _ _ _ h => h) (Or.inl ⟨by rfl, ?hy24zD⟩) (by assumption) ?rest24zD
        case hy24zD => intro w hSw; (try dsimp only at hSw); first | (go_simp; done) | (go_simp; with_reducible rfl)
        try simp only [Act.put, List.getElem_toArray, List.getElem_cons_succ, List.getElem_cons_zero, List.setIfInBounds_toArray, List.set_cons_zero, List.set_cons_succ]
        refine wpAnyH_take (i := 25) (v := ?v25zD) rfl (by kernel_rfl) (by kernel_rfl) (by kernel_rfl) (fun _ _ _ h => h) (Or.inl ⟨by rfl, ?hy25zD⟩) (by assumption) ?rest25zD
        case hy25zD => intro w hSw; (try dsimp only at hSw); first | (go_simp; done) | (go_simp; with_reducible rfl)
        try simp only [Act.put, List.getElem_toArray, List.getElem_cons_succ, List.getElem_cons_zero, List.setIfInBounds_toArray, List.set_cons_zero, List.set_cons_succ]
        refine wpAnyH_take (i := 26) (v := ?v26zD) rfl (by kernel_rfl) (by kernel_rfl) (by kernel_rfl) (fun _ _ _ h => h) (Or.inl ⟨by rfl, ?hy26zD⟩) (by assumption) ?rest26zD
        case hy26zD => intro w hSw; (try dsimp only at hSw); first | (go_simp; done) | (go_simp; with_reducible rfl)
        try simp only [Act.put, List.getElem_toArray, List.getElem_cons_succ, List.getElem_cons_zero, List.setIfInBounds_toArray, List.set_cons_zero, List.set_cons_succ]
        refine wpAnyH_take (i := 27) (v := ?v27zD) rfl (by kernel_rfl) (by kernel_rfl) (by kernel_rfl) (fun _ _ _ h => h) (Or.inl ⟨by rfl, ?hy27zD⟩) (by assumption) ?rest27zD
        case hy27zD => intro w hSw; (try dsimp only at hSw); first | (go_simp; done) | (go_simp; with_reducible rfl)
        try simp only [Act.put, List.getElem_toArray, List.getElem_cons_succ, List.getElem_cons_zero, List.setIfInBounds_toArray, List.set_cons_zero, List.set_cons_succ]
        refine wpAnyH_ready (rs := [28]) (by kernel_rfl) (by simp) ?_
        refine AllReadyH.cons rfl (fun K hK => ?_) AllReadyH.nil
        go_simp
        refine (vgrants_w (hHeld.2.ca) j (i : Int) (by rw [HN.out]; exact hj)).mono ?_
        rintro e w7 ⟨rfl, hb7⟩
        rw [HG2.out]
        go_wp2_with fail
        refine hK.out _ _ ?_ (fun hHeld2 => ?_)
        · try dsimp only
          (refine VdS.all ?_; (first | with_reducible assumption | with_reducible exact VdS.drew (by assumption) | with_reducible exact VdS.drew (And.right (by assumption)) | with_reducible exact VdS.next (by assumption) (by assumption) | with_reducible exact VdS.next (And.right (by assumption)) (by assumption)))
        clear hK K hHeld
        have hHeld := hHeld2; clear hHeld2
        try simp only [Act.put, List.getElem_toArray, List.getElem_cons_succ, List.getElem_cons_zero, List.setIfInBounds_toArray, List.set_cons_zero, List.set_cons_succ]
        refine wpAnyH_take (i := 29) (v := ?v29zD) rfl (by kernel_rfl) (by kernel_rfl) (by kernel_rfl) (fun _ _ _ h => h) (Or.inl ⟨by rfl, ?hy29zD⟩) (by assumption) ?rest29zD
        case hy29zD => intro w hSw; (try dsimp only at hSw); first | (go_simp; done) | (go_simp; with_reducible rfl)
        try simp only [Act.put, List.getElem_toArray, List.getElem_cons_succ, List.getElem_cons_zero, List.setIfInBounds_toArray, List.set_cons_zero, List.set_cons_succ]
        refine wpAnyH_take (i := 30) (v := ?v30zD) rfl (by kernel_rfl) (by kernel_rfl) (by kernel_rfl) (fun _ _ _ h => h) (Or.inl ⟨by rfl, ?hy30zD⟩) (by assumption) ?rest30zD
        case hy30zD => intro w hSw; (try dsimp only at hSw); first | (go_simp; done) | (go_simp; with_reducible rfl)
        try simp only [Act.put, List.getElem_toArray, List.getElem_cons_succ, List.getElem_cons_zero, List.setIfInBounds_toArray, List.set_cons_zero, List.set_cons_succ]
        refine wpAnyH_done (by kernel_rfl) ?_ _
        all_goals
          have HS9 := Lib.hid hHeld.2.below
          clear hHeld
          go_wp2_with fail
          go_ret
          exact ⟨by rw [HQ9.out]; rfl, by rw [hz]; exact Below.down HB.out HS9.out (by have := HB.out.size; omega)⟩
end Go.Proofs.Ytkaalinoiilmoaa
namespace Go.Proofs.Ytkaalinoiilmoaa
open Go.RowKit
set_option linter.unusedVariables false
set_option linter.unusedSimpArgs false
set_option maxRecDepth 100000
structure FdW (w0 : World) (c : Cf) (vp vd vw vg : Value) (gF gc gf : Nat) (F : Nat → Bool) (w : World) : Prop where
  fb : Blk w gF 72 (bitc F 4)
  cb : Blk w gc 27 (cfc c vp vd vw vg)
  vb : Blk w gf 73 [.func (.func 23) #[] #[.pointer (some ⟨gF, 0, none⟩), .pointer (some ⟨gc, 0, none⟩), .pointer (some ⟨gf, 0, none⟩)]]
  gF : w0.heap.size ≤ gF
  below : Below w0.heap.size w0 w
section
variable {w0 w w' : World} {c : Cf} {vp vd vw vg : Value} {gF gc gf : Nat} {F : Nat → Bool}
theorem FdW.next (h : FdW w0 c vp vd vw vg gF gc gf F w) (hb : Below w.heap.size w w') : FdW w0 c vp vd vw vg gF gc gf F w' :=
  ⟨h.fb.below hb h.fb.lt, h.cb.below hb h.cb.lt, h.vb.below hb h.vb.lt, h.gF, Below.down h.below hb h.below.size⟩
theorem FdW.put (h : FdW w0 c vp vd vw vg gF gc gf F w) (p : Nat) : FdW w0 c vp vd vw vg gF gc gf (bitF F p true) (w.setCell ⟨gF, p, none⟩ (.bool true)) :=
  ⟨by have := h.fb.set p (.bool true); rwa [bitc_set] at this, h.cb.far (h.cb.apart h.fb (by decide)) _, h.vb.far (h.vb.apart h.fb (by decide)) _, h.gF, h.below.setCell h.gF _⟩
set_option maxHeartbeats 1000000 in
theorem vfind_any (hc : CfAt w0 vp vd vw vg c) (h4 : c.ps.length ≤ 4) : ∀ (m : Nat) (F : Nat → Bool) (p : Nat) (w : World), unf c.ps.length F ≤ m → F p = false → p < c.ps.length → FdW w0 c vp vd vw vg gF gc gf F w →
    Calls Try.prog 23 #[.int .i64 (p : Int), .pointer (some ⟨gF, 0, none⟩), .pointer (some ⟨gc, 0, none⟩), .pointer (some ⟨gf, 0, none⟩)] w fun e w' => e = .returned (.tuple #[]) ∧ ∃ F', Fd (dN c) c.ps.length p F F' ∧ FdW w0 c vp vd vw vg gF gc gf F' w' := by
  intro m
  induction m with
  | zero => intro F p w hm hf hp _; have := unf_lt hp hf; omega
  | succ m ih =>
    intro F p w hm hf hp h
    obtain ⟨A, cap, hvp, _⟩ := hc.ps
    have HD := Lib.hid (fun (W : World) (hW : Below w0.heap.size w0 W) (i : Nat) (hi : i < c.ps.length) => vdirect_any (hc.below hW) i p hi hp)
    have HI := Lib.hid (fun (G : Nat → Bool) (hm : unf c.ps.length G ≤ m) => ih G)
    have h1 := h.put p
    have hfw := Fw.start (d := dN c) (n := c.ps.length) (p := p) (F := F)
    have hu : unf c.ps.length (bitF F p true) ≤ m := by have := unf_lt hp hf; omega
    have f0 := h.fb.frozen p
    have hp4 : (p : Int) < 4 := by omega
    have HP := Lib.hid hp; have H1 := Lib.hid h1; have HFW := Lib.hid hfw; have HU := Lib.hid hu
    have c0 := (h.fb.cell p).trans (bitc_get F 4 p (by omega))
    have c1 : (w.setCell ⟨gF, p, none⟩ (.bool true)).cell? ⟨gc, 1, none⟩ = some vp := (h1.cb.cell 1).trans rfl
    subst hvp
    clear hm hf h ih h1 hfw hu hc
    generalize hn : c.ps.length = n at *
    go_enter Try.func23, Try.ntmps23
    go_wp2_with fail
    generalize w.setCell ⟨gF, p, none⟩ (.bool true) = w1 at *
    clear c0 c1 f0
    go_loopw [11, 5] (fun i v wr => ∃ k : Nat, k ≤ n ∧ i = .int .i64 k ∧ Hid (∃ G, unf n G ≤ m ∧ Fw (dN c) n p k F G ∧ FdW w0 c (.slice A n cap) vd vw vg gF gc gf G wr)) (fun i _ _ => n - (intOf i).toNat)
    case atStart => exact ⟨0, by omega, rfl, Lib.hid ⟨_, HU.out, HFW.out, H1.out⟩⟩
    case round =>
      obtain ⟨k, hk, rfl, HX⟩ := hrel
      by_cases hlt : k < n
      · obtain ⟨G, hu, hw, hS⟩ := HX.out
        have k0 := (hS.fb.cell k).trans (bitc_get G 4 k (by omega))
        have hk4 : (k : Int) < 4 := by omega
        obtain ⟨q0, q1, q2, q3, q4, q5, q6, q7, q8⟩ := cf_at hS.cb
        have HC := Lib.hid (HD.out wr hS.below k hlt)
        have HU2 := Lib.hid hu; have HW := Lib.hid hw; have HS := Lib.hid hS
        clear hu hw hS
        cases hg : G k with
        | true =>
          rw [hg] at k0
          have HG := Lib.hid hg
          clear hg
          go_wp2_with fail
          go_roundw
          case rel => exact ⟨k + 1, by omega, by go_num, Lib.hid ⟨_, HU2.out, HW.out.skip (fun _ => HG.out), HS.out⟩⟩
          case measure => simp [intOf]; omega
        | false =>
          rw [hg] at k0
          have HG := Lib.hid hg
          clear hg
          go_wp2_with fail
          refine HC.out.mono ?_
          rintro e w2 ⟨rfl, b2⟩
          have HS2 := Lib.hid (HS.out.next b2)
          have q9 := (HS2.out.vb.cell 0).trans rfl
          clear b2
          cases hd : dN c k p with
          | false =>
            have HDD := Lib.hid hd
            clear hd q9
            go_wp2_with fail
            go_roundw
            case rel => exact ⟨k + 1, by omega, by go_num, Lib.hid ⟨_, HU2.out, HW.out.skip (fun h => by rw [HDD.out] at h; cases h), HS2.out⟩⟩
            case measure => simp [intOf]; omega
          | true =>
            have HDD := Lib.hid hd
            clear hd
            go_wp2_with fail
            refine (HI.out G HU2.out k w2 HU2.out HG.out hlt HS2.out).mono ?_
            rintro e w3 ⟨rfl, G', hf, hS3⟩
            have HF := Lib.hid hf; have HS3 := Lib.hid hS3
            clear hf hS3
            go_wp2_with fail
            go_roundw
            case rel => exact ⟨k + 1, by omega, by go_num, Lib.hid ⟨_, Nat.le_trans (unf_le HF.out.mono) HU2.out, HW.out.call HP.out HDD.out HF.out, HS3.out⟩⟩
            case measure => simp [intOf]; omega
      · obtain rfl : k = n := by omega
        go_wp2_with fail
        go_end0
        obtain ⟨G, hu, hw, hS⟩ := HX.out
        exact ⟨rfl, G, hw.end_ HP.out, hS⟩
end
theorem FdW.start (w : World) (c : Cf) (vp vd vw vg : Value) : FdW w c vp vd vw vg (w.heap.size + 1) w.heap.size (w.heap.size + 1 + 1) noB
    (((w.alloc (.cells #[.int .i64 c.fr, vp, vd, .int .i64 c.mj, vw, vg, .int .i64 c.se, .int .i64 c.qu, .int .i64 c.qt] 27)).alloc (.cells #[.bool false, .bool false, .bool false, .bool false] 72)).alloc
      (.cells #[.func (.func 23) #[] #[.pointer (some ⟨w.heap.size + 1, 0, none⟩), .pointer (some ⟨w.heap.size, 0, none⟩), .pointer (some ⟨w.heap.size + 1 + 1, 0, none⟩)]] 73)) := by
  have b1 : Below w.heap.size w (w.alloc (.cells #[.int .i64 c.fr, vp, vd, .int .i64 c.mj, vw, vg, .int .i64 c.se, .int .i64 c.qu, .int .i64 c.qt] 27)) := (Below.refl _ _).alloc (Nat.le_refl _) _
  have k0 : Blk (w.alloc (.cells #[.int .i64 c.fr, vp, vd, .int .i64 c.mj, vw, vg, .int .i64 c.se, .int .i64 c.qu, .int .i64 c.qt] 27)) w.heap.size 27 (cfc c vp vd vw vg) := Blk.new w _ (cfc c vp vd vw vg)
  have hs : (w.alloc (.cells #[.int .i64 c.fr, vp, vd, .int .i64 c.mj, vw, vg, .int .i64 c.se, .int .i64 c.qu, .int .i64 c.qt] 27)).heap.size = w.heap.size + 1 := World.size_alloc _ _
  generalize w.alloc (.cells #[.int .i64 c.fr, vp, vd, .int .i64 c.mj, vw, vg, .int .i64 c.se, .int .i64 c.qu, .int .i64 c.qt] 27) = w1 at *
  have b2 : Below w.heap.size w (w1.alloc (.cells #[.bool false, .bool false, .bool false, .bool false] 72)) := b1.alloc b1.size _
  have k1 : Blk (w1.alloc (.cells #[.bool false, .bool false, .bool false, .bool false] 72)) (w.heap.size + 1) 72 (bitc noB 4) := by rw [← hs]; exact Blk.new w1 _ (bitc noB 4)
  have k01 := k0.alloc (.cells #[.bool false, .bool false, .bool false, .bool false] 72)
  have hs2 : (w1.alloc (.cells #[.bool false, .bool false, .bool false, .bool false] 72)).heap.size = w.heap.size + 1 + 1 := by rw [World.size_alloc, hs]
  generalize w1.alloc (.cells #[.bool false, .bool false, .bool false, .bool false] 72) = w2 at *
  have hn := Blk.new w2 73 [.func (.func 23) #[] #[.pointer (some ⟨w.heap.size + 1, 0, none⟩), .pointer (some ⟨w.heap.size, 0, none⟩), .pointer (some ⟨w.heap.size + 1 + 1, 0, none⟩)]]
  rw [hs2] at hn
  exact ⟨k1.alloc _, k01.alloc _, hn, by omega, b2.alloc b2.size _⟩
theorem FdW.tk {w w' : World} {c : Cf} {vp vd vw vg : Value} {gF gc gf : Nat} {F : Nat → Bool} (h : FdW w c vp vd vw vg gF gc gf F w') (hg : w.heap.size ≤ gc) :
    Tk nos w [obB gc 27 (cfc c vp vd vw vg), obB gF 72 (bitc F 4)] w' := by
  have hne : gc ≠ gF := h.cb.apart h.fb (by decide)
  have hF := h.gF
  refine ⟨fun k => k = gc ∨ (k = gF ∨ nos k), ⟨fun k => k = gc, fun k => k = gF ∨ nos k, ⟨h.cb, fun _ => Iff.rfl⟩, ⟨fun k => k = gF, nos, ⟨h.fb, fun _ => Iff.rfl⟩, fun _ => id, fun _ _ h => h, fun _ => Iff.rfl⟩, fun k a b => ?_, fun _ => Iff.rfl⟩, fun k hk hS => ?_, Fo.of h.below nos⟩
  · rcases b with b | b
    · exact hne (a.symm.trans b)
    · exact b
  · rcases hS with a | a | a
    · omega
    · omega
    · exact a
def flV (gc gF : Nat) : Value := .func (.func 25) #[] #[.pointer (some ⟨gc, 0, none⟩), .pointer (some ⟨gF, 0, none⟩)]
section
variable {w : World} {c : Cf} {vp vd vw vg : Value}
theorem vflowsto_any (hc : CfAt w vp vd vw vg c) (h4 : c.ps.length ≤ 4) (p : Nat) (hp : p < c.ps.length) :
    Calls Try.prog 18 #[.agg #[.int .i64 c.fr, vp, vd, .int .i64 c.mj, vw, vg, .int .i64 c.se, .int .i64 c.qu, .int .i64 c.qt], .int .i64 (p : Int)] w fun e w' => ∃ gc gF, e = .returned (flV gc gF) ∧
      Tk nos w [obB gc 27 (cfc c vp vd vw vg), obB gF 72 (bitc (fun i => FL c i p) 4)] w' := by
  have HF := Lib.hid (fun (W : World) (a b g : Nat) => vfind_any (gc := a) (gF := b) (gf := g) hc h4 c.ps.length noB p W (by unfold unf; exact Nat.le_trans (List.length_filter_le _ _) (by rw [List.length_range]; exact Nat.le_refl _)) rfl hp)
  have HP := Lib.hid hp
  clear hc h4
  go_enter Try.func18, Try.ntmps18
  go_wp2_with fail
  refine (HF.out _ _ _ _ (FdW.start w c vp vd vw vg)).mono ?_
  rintro e w4 ⟨rfl, F', hf, hS⟩
  rw [found_FL hf] at hS
  have HT := Lib.hid (hS.tk (Nat.le_refl _))
  clear hf hS
  go_wp2_with fail
  go_ret
  exact ⟨_, _, rfl, HT.out⟩
theorem vflow2_any (hc : CfAt w vp vd vw vg c) (h4 : c.ps.length ≤ 4) (p : Nat) (gc gF : Nat) (hb : Blk w gc 27 (cfc c vp vd vw vg)) (hf : Blk w gF 72 (bitc (fun i => FL c i p) 4)) (x : Int) :
    Calls Try.prog 25 #[.int .i64 x, .pointer (some ⟨gc, 0, none⟩), .pointer (some ⟨gF, 0, none⟩)] w fun e w' => e = .returned (.bool (flI c x p)) ∧ Below w.heap.size w w' := by
  obtain ⟨q0, q1, q2, q3, q4, q5, q6, q7, q8⟩ := cf_at hb
  have HH := Lib.hid (vhaspart_any hc x)
  cases hx : inP c.ps.length x with
  | false =>
    have HR := Lib.hid (show flI c x p = false by unfold flI; rw [hx]; rfl)
    rw [hx] at HH
    clear hb hf hc hx
    go_enter Try.func25, Try.ntmps25
    go_wp2_with fail
    refine HH.out.mono ?_
    rintro e w1 ⟨rfl, b1⟩
    have HB := Lib.hid b1
    clear b1
    go_wp2_with fail
    go_ret
    exact ⟨by rw [HR.out]; rfl, HB.out⟩
  | true =>
    obtain ⟨k, rfl, hx2⟩ := (inP_iff _ _).1 hx
    have hk4 : (k : Int) < 4 := by omega
    have HR := Lib.hid (show flI c k p = FL c k p by unfold flI; rw [hx]; simp)
    rw [hx] at HH
    have HBF := Lib.hid hf
    clear hb hf hc hx hx2
    go_enter Try.func25, Try.ntmps25
    go_wp2_with fail
    refine HH.out.mono ?_
    rintro e w1 ⟨rfl, b1⟩
    have k0 := ((HBF.out.below b1 HBF.out.lt).cell k).trans (bitc_get (fun i => FL c i p) 4 k (by omega))
    have HB := Lib.hid b1
    clear b1
    go_wp2_with fail
    go_ret
    exact ⟨by rw [HR.out]; rfl, HB.out⟩
theorem cfMay_n {c : Cf} (h : cfMay c = true) : 1 ≤ c.ps.length ∧ c.ps.length ≤ 4 ∧ 1 ≤ c.ds.length ∧ c.ds.length ≤ 4 := by
  unfold cfMay psB dsB at h
  simp only [Bool.and_eq_true, btw_iff] at h
  omega
theorem vflows_any (hc : CfAt w vp vd vw vg c) (x y : Int) :
    Calls Try.prog 11 #[.agg #[.int .i64 c.fr, vp, vd, .int .i64 c.mj, vw, vg, .int .i64 c.se, .int .i64 c.qu, .int .i64 c.qt], .int .i64 x, .int .i64 y] w fun e w' => e = .returned (.bool (flB c x y)) ∧ Below w.heap.size w w' := by
  obtain ⟨hb, hB⟩ := cf_box w c vp vd vw vg
  have HBB := Lib.hid hb; have HB := Lib.hid hB; have HA := Lib.hid (hc.below hB)
  obtain ⟨q0, q1, q2, q3, q4, q5, q6, q7, q8⟩ := cf_at hb
  clear hb hB hc
  have HM := Lib.hid (cmay_any HA.out)
  cases hm : cfMay c with
  | false =>
    have HR := Lib.hid (show flB c x y = false by unfold flB; rw [hm]; rfl)
    rw [hm] at HM
    clear hm
    go_enter Try.func11, Try.ntmps11
    go_wp2_with fail
    refine HM.out.mono ?_
    rintro e w1 ⟨rfl, b1⟩
    have HB1 := Lib.hid b1
    clear b1
    go_wp2_with fail
    go_ret
    exact ⟨by rw [HR.out]; rfl, Below.down HB.out HB1.out HB.out.size⟩
  | true =>
    have HN := Lib.hid (cfMay_n hm)
    rw [hm] at HM
    cases hy : inP c.ps.length y with
    | false =>
      have HR := Lib.hid (show flB c x y = false by unfold flB; rw [hm, hy]; rfl)
      have HH := Lib.hid (fun W hW => (vhaspart_any (w := W) (HA.out.below hW) y))
      rw [hy] at HH
      clear hm hy
      go_enter Try.func11, Try.ntmps11
      go_wp2_with fail
      generalize w.alloc (.cells #[.int .i64 c.fr, vp, vd, .int .i64 c.mj, vw, vg, .int .i64 c.se, .int .i64 c.qu, .int .i64 c.qt] 27) = w0 at *
      refine HM.out.mono ?_
      rintro e w1 ⟨rfl, b1⟩
      obtain ⟨q0, q1, q2, q3, q4, q5, q6, q7, q8⟩ := cf_at (HBB.out.below b1 HBB.out.lt)
      have HB1 := Lib.hid b1
      clear b1
      go_wp2_with fail
      refine (HH.out w1 HB1.out).mono ?_
      rintro e w2 ⟨rfl, b2⟩
      have HB2 := Lib.hid (Below.down HB1.out b2 HB1.out.size)
      clear b2
      go_wp2_with fail
      go_ret
      exact ⟨by rw [HR.out]; rfl, Below.down HB.out HB2.out HB.out.size⟩
    | true =>
      obtain ⟨p, rfl, hp⟩ := (inP_iff _ _).1 hy
      have HR := Lib.hid (show flB c x (p : Int) = flI c x p by unfold flB; rw [hm, hy]; simp)
      have HH := Lib.hid (fun W hW => (vhaspart_any (w := W) (HA.out.below hW) (p : Int)))
      rw [hy] at HH
      have HP := Lib.hid hp
      clear hm hy hp
      go_enter Try.func11, Try.ntmps11
      go_wp2_with fail
      generalize w.alloc (.cells #[.int .i64 c.fr, vp, vd, .int .i64 c.mj, vw, vg, .int .i64 c.se, .int .i64 c.qu, .int .i64 c.qt] 27) = w0 at *
      refine HM.out.mono ?_
      rintro e w1 ⟨rfl, b1⟩
      obtain ⟨q0, q1, q2, q3, q4, q5, q6, q7, q8⟩ := cf_at (HBB.out.below b1 HBB.out.lt)
      have HB1 := Lib.hid b1
      clear b1
      go_wp2_with fail
      refine (HH.out w1 HB1.out).mono ?_
      rintro e w2 ⟨rfl, b2⟩
      have HB2 := Lib.hid (Below.down HB1.out b2 HB1.out.size)
      clear b2 q0 q1 q2 q3 q4 q5 q6 q7 q8
      obtain ⟨q0, q1, q2, q3, q4, q5, q6, q7, q8⟩ := cf_at (HBB.out.below HB2.out HBB.out.lt)
      go_wp2_with fail
      refine (vflowsto_any (HA.out.below HB2.out) HN.out.2.1 p HP.out).mono ?_
      rintro e w3 ⟨gc, gF, rfl, t3⟩
      have HT := Lib.hid t3
      have HB3 := Lib.hid (Below.down HB2.out t3.below HB2.out.size)
      clear t3
      unfold flV
      go_wp2_with fail
      refine (vflow2_any (HA.out.below HB3.out) HN.out.2.1 p gc gF (HT.out.blk (i := 0) rfl) (HT.out.blk (i := 1) rfl) x).mono ?_
      rintro e w4 ⟨rfl, b4⟩
      have HB4 := Lib.hid (Below.down HB3.out b4 HB3.out.size)
      clear b4
      go_wp2_with fail
      go_ret
      exact ⟨by rw [HR.out]; rfl, Below.down HB.out HB4.out HB.out.size⟩
end
end Go.Proofs.Ytkaalinoiilmoaa
namespace Go.Proofs.Ytkaalinoiilmoaa
open Go.RowKit Go.ChangeMaps
set_option linter.unusedVariables false
set_option linter.unusedSimpArgs false
set_option maxRecDepth 100000
section
variable {w : World} {c : Cf} {vp vd vw vg : Value}
theorem cfMay_q {c : Cf} (h : cfMay c = true) : 1 ≤ c.qt ∧ c.qt ≤ 8 := by
  unfold cfMay qtB at h
  simp only [Bool.and_eq_true, btw_iff] at h
  omega
theorem cfMay_dv {c : Cf} (h : cfMay c = true) : ∀ j, j < c.ds.length → adB c.ps.length ((c.ds.map (·.pt)).getD j 0) = true := by
  unfold cfMay dsB at h
  simp only [Bool.and_eq_true] at h
  have h2 := h.2.2.1.2
  rw [List.all_eq_true] at h2
  intro j hj
  have h3 := h2 _ (List.getElem_mem hj)
  unfold dvB_Cf0 at h3
  rw [Bool.and_eq_true] at h3
  have h4 := h3.1
  simpa [List.getD, List.getElem?_map, List.getElem?_eq_getElem hj, adB, inP] using h4
set_option maxHeartbeats 2000000 in
theorem vdevs_any (hc : CfAt w vp vd vw vg c) (hm : cfMay c = true) :
    Calls Try.prog 26 #[.agg #[.int .i64 c.fr, vp, vd, .int .i64 c.mj, vw, vg, .int .i64 c.se, .int .i64 c.qu, .int .i64 c.qt]] w fun e w' => ∃ g, e = .returned (.pointer (some ⟨g, 0, none⟩)) ∧ Tk nos w [obPA g c.qt.toNat c.ps.length c.ds.length (zO (c.ds.map (·.pt)) c.ds.length) noN] w' := by
  obtain ⟨i0, hi, hz0, hz1, hz2⟩ := info_parts infoIntA
  have HI := Lib.hid hi; have HZ0 := Lib.hid hz0; have HZ1 := Lib.hid hz1; have HZ2 := Lib.hid hz2
  clear hi hz0 hz1 hz2
  obtain ⟨p1, p4, d1, d4⟩ := cfMay_n hm
  obtain ⟨u1, u8⟩ := cfMay_q hm
  have hdv := Lib.hid (cfMay_dv hm)
  obtain ⟨Ap, cap, rfl, _⟩ := hc.ps
  obtain ⟨A, cad, b, o, sv, rfl, hA, hr⟩ := hc.ds.rows
  obtain ⟨rfl, hb⟩ := hA (by omega)
  have HR := Lib.hid (fun i hi => And.intro (hr i hi).1 (show ∃ A2 n2 c2, sv i = .slice A2 n2 c2 by obtain ⟨A2, c2, e, _⟩ := (hr i hi).2; exact ⟨_, _, _, e⟩))
  clear hr hA hm
  have hk : Blk (w.alloc (.cells #[.int .i64 c.fr, .slice Ap c.ps.length cap, .slice (some ⟨b, o, none⟩) c.ds.length cad, .int .i64 c.mj, vw, vg, .int .i64 c.se, .int .i64 c.qu, .int .i64 c.qt] 27)) w.heap.size 27 (cfc c (.slice Ap c.ps.length cap) (.slice (some ⟨b, o, none⟩) c.ds.length cad) vw vg) := (cf_box w c _ _ vw vg).1
  have T0 : Hid (Tk nos w [obJ (.slice none 0 0) ((c.ds.map (·.pt)).take 0), obB w.heap.size 27 (cfc c (.slice Ap c.ps.length cap) (.slice (some ⟨b, o, none⟩) c.ds.length cad) vw vg)] (w.alloc (.cells #[.int .i64 c.fr, .slice Ap c.ps.length cap, .slice (some ⟨b, o, none⟩) c.ds.length cad, .int .i64 c.mj, vw, vg, .int .i64 c.se, .int .i64 c.qu, .int .i64 c.qt] 27))) := Lib.hid
    (((Tk.empty w).alloc 27 (cfc c (.slice Ap c.ps.length cap) (.slice (some ⟨b, o, none⟩) c.ds.length cad) vw vg)).addR (v := .slice none 0 0) (n := 0) (xs := []) (Below.refl _ _) (World.ownsRow_nil _ _ _ _))
  have HL := Lib.hid (show (c.ds.map (·.pt)).length = c.ds.length by simp)
  have HE := Lib.hid (fun k (h : k < c.ds.length) => show (c.ds.map (·.pt)).take (k + 1) = (c.ds.map (·.pt)).take k ++ [(c.ds.getD k deD).pt] by
    rw [List.take_succ_eq_append_getElem (by simpa using h)]; simp [List.getD, List.getElem?_eq_getElem h])
  obtain ⟨q0, q1, q2, q3, q4, q5, q6, q7, q8⟩ := cf_at hk
  obtain ⟨U, hU⟩ : ∃ U : Nat, c.qt = U := ⟨c.qt.toNat, by omega⟩
  have HUq := Lib.hid hU
  clear hk hc hU
  generalize c.ds.map (·.pt) = P at *
  go_enter Try.func26, Try.ntmps26
  go_wp2_with fail
  generalize w.alloc (.cells #[.int .i64 c.fr, .slice Ap c.ps.length cap, .slice (some ⟨b, o, none⟩) c.ds.length cad, .int .i64 c.mj, vw, vg, .int .i64 c.se, .int .i64 c.qu, .int .i64 c.qt] 27) = w1 at *
  have HB := Lib.hid hb
  clear hb
  generalize hd : c.ds.length = D at *
  have HD := Lib.hid hd
  clear hd
  generalize hy : w.heap.size = y at *
  have HY := Lib.hid hy
  clear hy q0 q1 q2 q3 q4 q5 q6 q7 q8
  go_loopw [3, 11, 5] (fun v i d wr => ∃ (k : Nat), k ≤ D ∧ i = .int .i64 k ∧ d = d ∧ Hid (Tk nos w [obJ v (P.take k), obB y 27 (cfc c (.slice Ap c.ps.length cap) (.slice (some ⟨b, o, none⟩) D cad) vw vg)] wr)) (fun _ i _ _ => 4 - (intOf i).toNat)
  case atStart => exact ⟨0, by omega, rfl, rfl, T0⟩
  case round =>
    clear T0
    obtain ⟨k, hkD, rfl, -, HT⟩ := hrel
    by_cases hlt : k < D
    · have hltI : (k : Int) < D := by omega
      have hbel := HT.out.below
      have hsz := hbel.size
      have r0 := (hbel.cell (p := ⟨b, o + k * 2, none⟩) (by rw [HY.out]; exact HB.out)).trans (HR.out k hlt).1.1
      have r1 := (hbel.cell (p := ⟨b, o + k * 2 + 1, none⟩) (by rw [HY.out]; exact HB.out)).trans (HR.out k hlt).1.2
      obtain ⟨A2, n2, c2, hsk⟩ := (HR.out k hlt).2
      rw [hsk] at r1
      have HEk := Lib.hid (HE.out k hlt)
      have t1 := HT.out.alloc 64 [.int .i64 (c.ds.getD k deD).pt, .slice A2 n2 c2]
      have hlen : (P.take k).length ≤ 4 := by rw [List.length_take]; omega
      generalize (c.ds.getD k deD).pt = pt at *
      clear hsk
      have c0 := ((t1.blk (i := 0) rfl).cell 0).trans rfl
      have T1 := Lib.hid t1
      clear t1 hbel hsz
      generalize hlk : P.take k = lk at *
      clear hlk
      go_upto_region 5 with fail
      generalize wr.alloc (.cells #[.int .i64 pt, .slice A2 n2 c2] 64) = w4 at *
      have BL := Lib.hid (show Below w4.heap.size w4 (w4.alloc (.cells #[.int .i64 pt] 3)) from (Below.refl _ _).alloc (Nat.le_refl _) _)
      go_wp2_with (at_builtin; refine wpList_append_lies _ rfl _ _ 46 rfl 0 3 i0 _ 1 8 Try.underlying46 HI.out HZ0.out HZ1.out HZ2.out rfl (by decide) u3 lk.length (ints lk) rfl (own_below (T1.out.row (i := 1) rfl) BL.out) ⟨w4.heap.size, 0, none⟩ 1 1 [.int .i64 pt] rfl rfl (row_new w4 [.int .i64 pt] 3) (int1A pt) (by omega) (by unfold maxLen; omega) (by omega) (by omega) _ rfl ?_)
      intro gg cap6 w6 own6 gr6 hat6 hlt6
      have t5 := T1.out.next BL.out
      have t6 : Tk nos w [obB wr.heap.size 64 [.int .i64 pt, .slice A2 n2 c2], obJ (.slice (some ⟨gg, 0, none⟩) (lk.length + 1) cap6) (P.take (k + 1)), obB y 27 (cfc c (.slice Ap c.ps.length cap) (.slice (some ⟨b, o, none⟩) D cad) vw vg)] w6 := by
        refine t5.turnR (i := 1) rfl gr6 (by rw [HEk.out, ints_append, List.length_append]; exact own6) (fun x hx => ?_)
        have e : gg = x := by simpa [Value.ownBlock] using hx
        subst e
        rcases hat6 with h | h
        · exact .inl h
        · exact .inr (by simp at h ⊢; omega)
      have T6 := Lib.hid t6.tail
      clear own6 gr6 hat6 hlt6 t5 t6 r0 r1 c0
      go_wp2_with fail
      go_roundw
      case rel => exact ⟨k + 1, by omega, by go_num, trivial, T6⟩
      case measure => simp [intOf]; omega
    · obtain rfl : k = D := by omega
      obtain ⟨q0, q1, q2, q3, q4, q5, q6, q7, q8⟩ := cf_at (HT.out.blk (i := 1) rfl)
      go_wp2_with fail
      rw [HUq.out]
      have hP : P.take k = P := List.take_of_length_le (by rw [HL.out]; omega)
      rw [hP] at HT
      have hkP := HL.out
      have hS := HT.out.sl (i := 0) rfl
      refine (anew_yes U c.ps.length u3 k P wr (by rw [← hkP]; exact hS) (by have := HUq.out; omega) (by have := HUq.out; omega) p1 p4 d1 d4 hdv.out).mono ?_
      rintro e w5 ⟨g, rfl, t5⟩
      have T5 := Lib.hid ((HT.out.add t5).sub (List.Sublist.cons_cons _ (List.nil_sublist _)) : Tk nos w [obPA g U c.ps.length k (zO P k) noN] w5)
      clear hS t5 hkP hP q0 q1 q2 q3 q4 q5 q6 q7 q8
      go_wp2_with fail
      go_ret
      exact ⟨g, rfl, by rw [HUq.out, HD.out]; exact T5.out⟩
end
end Go.Proofs.Ytkaalinoiilmoaa
namespace Go.Proofs.Ytkaalinoiilmoaa
open Go.RowKit Go.ChangeMaps
set_option linter.unusedVariables false
set_option linter.unusedSimpArgs false
set_option maxRecDepth 100000
structure HI where
  gt : Nat
  gd : Nat
  gl : Nat
  gc : Nat
  gF : Nat
  g : Nat
  vp : Value
  vd : Value
  vw : Value
  vg : Value
def heV (i : HI) : Value := .func (.func 27) #[] #[.pointer (some ⟨i.gt, 0, none⟩), .pointer (some ⟨i.gd, 0, none⟩), .pointer (some ⟨i.gl, 0, none⟩)]
noncomputable def hO (i : HI) (c : Cf) (p : Nat) (h : Hs) (os : List Ob) : List Ob :=
  obB i.gt 3 [.int .i64 h.t] :: obB i.gd 74 [.pointer (some ⟨i.g, 0, none⟩)] :: obB i.gl 59 [flV i.gc i.gF] ::
  obB i.gc 27 (cfc c i.vp i.vd i.vw i.vg) :: obB i.gF 72 (bitc (fun i => FL c i p) 4) :: obPA i.g c.qt.toNat c.ps.length c.ds.length h.O h.L :: os
section
variable {w : World} {c : Cf} {vp vd vw vg : Value}
theorem vhearing_any (hc : CfAt w vp vd vw vg c) (hm : cfMay c = true) (p : Nat) (hp : p < c.ps.length) :
    Calls Try.prog 19 #[.agg #[.int .i64 c.fr, vp, vd, .int .i64 c.mj, vw, vg, .int .i64 c.se, .int .i64 c.qu, .int .i64 c.qt], .int .i64 (p : Int)] w fun e w' => ∃ i : HI, e = .returned (heV i) ∧ (i.vp = vp ∧ i.vd = vd ∧ i.vw = vw ∧ i.vg = vg) ∧ Tk nos w (hO i c p (hsNew c) []) w' := by
  obtain ⟨hb, hB⟩ := cf_box w c vp vd vw vg
  have HBB := Lib.hid hb; have HB := Lib.hid hB; have HA := Lib.hid (hc.below hB)
  have HM := Lib.hid hm; have HP := Lib.hid hp; have HN := Lib.hid (cfMay_n hm)
  obtain ⟨q0, q1, q2, q3, q4, q5, q6, q7, q8⟩ := cf_at hb
  clear hb hB hc hm hp
  go_enter Try.func19, Try.ntmps19
  go_wp2_with fail
  generalize w.alloc (.cells #[.int .i64 c.fr, vp, vd, .int .i64 c.mj, vw, vg, .int .i64 c.se, .int .i64 c.qu, .int .i64 c.qt] 27) = w1 at *
  refine (vflowsto_any HA.out HN.out.2.1 p HP.out).mono ?_
  rintro e w2 ⟨gc, gF, rfl, t2⟩
  have t3 := t2.alloc 59 [flV gc gF]
  have T3 := Lib.hid t3
  have c3 := cf_at (HBB.out.below t3.below HBB.out.lt)
  clear t2 t3 q0 q1 q2 q3 q4 q5 q6 q7 q8
  obtain ⟨q0, q1, q2, q3, q4, q5, q6, q7, q8⟩ := c3
  unfold flV at *
  go_wp2_with fail
  generalize w2.alloc (.cells #[.func (.func 25) #[] #[.pointer (some ⟨gc, 0, none⟩), .pointer (some ⟨gF, 0, none⟩)]] 59) = w3 at *
  generalize w2.heap.size = gl at *
  refine (vdevs_any (HA.out.below T3.out.below) HM.out).mono ?_
  rintro e w4 ⟨g, rfl, t4⟩
  have t5 := ((T3.out.add t4).alloc 74 [.pointer (some ⟨g, 0, none⟩)])
  have t6 := t5.alloc 3 [.int .i64 0]
  have T6 := Lib.hid t6
  clear t4 t5 t6 q0 q1 q2 q3 q4 q5 q6 q7 q8 T3
  go_wp2_with fail
  go_ret
  refine ⟨⟨_, _, gl, gc, gF, g, vp, vd, vw, vg⟩, rfl, ⟨rfl, rfl, rfl, rfl⟩, ?_⟩
  have t7 := ((Tk.empty w).next HB.out).add (T6.out.perm (.cons _ (.cons _ (List.perm_append_comm (l₁ := [obPA g c.qt.toNat c.ps.length c.ds.length (zO (c.ds.map (·.pt)) c.ds.length) noN])))))
  simp only [World.size_alloc] at t7
  exact t7
end
theorem stp_cells {w : World} {b : Nat} {x : Stp} (h : Blk w b 39 (stc x)) : w.cell? ⟨b, 0, none⟩ = some (.int .i64 x.k) ∧ w.cell? ⟨b, 1, none⟩ = some (.int .i64 x.p) ∧ w.cell? ⟨b, 2, none⟩ = some (.int .i64 x.d) ∧ w.cell? ⟨b, 3, none⟩ = some (.int .i64 x.a) ∧ w.cell? ⟨b, 4, none⟩ = some (.int .i64 x.b) ∧ w.cell? ⟨b, 5, none⟩ = some (.int .i64 x.c) ∧ w.cell? ⟨b, 6, none⟩ = some (.string x.s) := by
  have e : ∀ k, w.cell? ⟨b, k, none⟩ = (stc x)[k]? := fun k => h.cell k
  exact ⟨(e 0).trans rfl, (e 1).trans rfl, (e 2).trans rfl, (e 3).trans rfl, (e 4).trans rfl, (e 5).trans rfl, (e 6).trans rfl⟩
structure HrS (S : Nat → Prop) (W0 : World) (i : HI) (c : Cf) (p : Nat) (hs : Hs) (os : List Ob) (y : Nat) (s : Stp) (w : World) : Prop where
  tk : Tk S W0 (obB y 39 (stc s) :: hO i c p hs os) w
  ca : CfAt w i.vp i.vd i.vw i.vg c
section
variable {S : Nat → Prop} {W0 w w' : World} {i : HI} {c : Cf} {p : Nat} {hs : Hs} {os : List Ob} {y : Nat} {s : Stp}
theorem HrS.next (h : HrS S W0 i c p hs os y s w) (hb : Below w.heap.size w w') : HrS S W0 i c p hs os y s w' := ⟨h.tk.next hb, h.ca.below hb⟩
theorem HrS.drew (h : HrS S W0 i c p hs os y s w) : HrS S W0 i c p hs os y s w.drew := h.next (bdrewN (Below.refl _ _) 1)
theorem HrS.drewN (h : HrS S W0 i c p hs os y s w) (n : Nat) : HrS S W0 i c p hs os y s (w.drewN n) := h.next (bdrewN (Below.refl _ _) n)
theorem HrS.cells (h : HrS S W0 i c p hs os y s w) : w.cell? ⟨i.gt, 0, none⟩ = some (.int .i64 hs.t) ∧ w.cell? ⟨i.gd, 0, none⟩ = some (.pointer (some ⟨i.g, 0, none⟩)) ∧ w.cell? ⟨i.gl, 0, none⟩ = some (flV i.gc i.gF) :=
  ⟨((h.tk.blk (i := 1) rfl).cell 0).trans rfl, ((h.tk.blk (i := 2) rfl).cell 0).trans rfl, ((h.tk.blk (i := 3) rfl).cell 0).trans rfl⟩
theorem HrS.held (h : HrS S W0 i c p hs os y s w) : w.cell? ⟨i.gd, 0, none⟩ = some (.pointer (some ⟨i.g, 0, none⟩)) ∧ w.cell? ⟨i.gl, 0, none⟩ = some (flV i.gc i.gF) ∧ w.cell? ⟨y, 2, none⟩ = some (.int .i64 s.d) ∧ HrS S W0 i c p hs os y s w :=
  ⟨h.cells.2.1, h.cells.2.2, (stp_cells (h.tk.blk (i := 0) rfl)).2.2.1, h⟩
theorem HrS.flow (h : HrS S W0 i c p hs os y s w) (h4 : c.ps.length ≤ 4) (x : Int) : Calls Try.prog 25 #[.int .i64 x, .pointer (some ⟨i.gc, 0, none⟩), .pointer (some ⟨i.gF, 0, none⟩)] w fun e w' => e = .returned (.bool (flI c x p)) ∧ Below w.heap.size w w' :=
  vflow2_any h.ca h4 p i.gc i.gF (h.tk.blk (i := 4) rfl) (h.tk.blk (i := 5) rfl) x
set_option maxHeartbeats 2000000 in
theorem tk_hear (hm : cfMay c = true) (ht : hs.t ≤ 1048575) (hc : CfAt w i.vp i.vd i.vw i.vg c) (h : Tk S W0 (hO i c p hs os) w) (s : Stp) :
    Calls Try.prog 27 #[.agg #[.int .i64 s.k, .int .i64 s.p, .int .i64 s.d, .int .i64 s.a, .int .i64 s.b, .int .i64 s.c, .string s.s], .pointer (some ⟨i.gt, 0, none⟩), .pointer (some ⟨i.gd, 0, none⟩), .pointer (some ⟨i.gl, 0, none⟩)] w fun e w' => e = .returned (.bool (hdB c p hs s)) ∧ Tk S W0 (hO i c p (hdS c hs s) os) w' := by
  have h4 := (cfMay_n hm).2.1
  have hq := cfMay_q hm
  have hS : HrS S W0 i c p hs os w.heap.size s (w.alloc (.cells #[.int .i64 s.k, .int .i64 s.p, .int .i64 s.d, .int .i64 s.a, .int .i64 s.b, .int .i64 s.c, .string s.s] 39)) := ⟨h.alloc 39 (stc s), hc.below ((Below.refl _ _).alloc (Nat.le_refl _) _)⟩
  obtain ⟨k, p', d, a, b, c', x⟩ := s
  dsimp only at hS ⊢
  obtain ⟨s0, s1, s2, s3, s4, s5, s6⟩ := stp_cells (hS.tk.blk (i := 0) rfl)
  obtain ⟨k0, k1, k2⟩ := hS.cells
  have f0 := (hS.tk.blk (i := 1) rfl).frozen 0
  dsimp only at s0 s1 s2 s3 s4 s5 s6
  have HS := Lib.hid hS
  clear hm hc h hS
  unfold flV at k2
  rcases (show (k = 1 ∧ hs.t < 1048575) ∨ (k = 1 ∧ hs.t = 1048575) ∨ k = 2 ∨ k = 3 ∨ k = 4 ∨ (5 ≤ k ∧ k ≤ 16) ∨ k < 1 ∨ 16 < k by omega) with ⟨rfl, hlt⟩ | ⟨rfl, hlt⟩ | rfl | rfl | rfl | ⟨ha, hb⟩ | ha | ha
  · have HR := Lib.hid (show hdB c p hs ⟨1, p', d, a, b, c', x⟩ = true ∧ hdS c hs ⟨1, p', d, a, b, c', x⟩ = ⟨hs.t + 1, hs.O, atL hs.L c.ds.length⟩ from ⟨rfl, by unfold hdS; rw [if_pos rfl, if_pos hlt]⟩)
    have hl1 : (hs.t : Int) < 1048575 := by omega
    have t1 := HS.out.tk.store (i := 1) rfl 0 (.int .i64 ((hs.t + 1 : Nat) : Int))
    have k1' := (((t1.blk (i := 2) rfl).cell 0).trans rfl : _ = some (.pointer (some ⟨i.g, 0, none⟩)))
    rw [show ((hs.t + 1 : Nat) : Int) = (hs.t : Int) + 1 by omega] at t1 k1'
    have T1 := Lib.hid t1
    clear t1
    go_enter Try.func27, Try.ntmps27
    go_wp2_with fail
    refine (tk_atick _ T1.out (i := 6) rfl).mono ?_
    rintro e w2 ⟨v, rfl, t2⟩
    have T2 := Lib.hid t2
    clear t2 T1 HS k0 k1 k2 k1' f0 s0 s1 s2 s3 s4 s5 s6
    go_wp2_with fail
    go_ret
    rw [HR.out.1, HR.out.2]
    exact ⟨rfl, by have := T2.out.tail.tail; exact this⟩
  · have HR := Lib.hid (show hdB c p hs ⟨1, p', d, a, b, c', x⟩ = true ∧ hdS c hs ⟨1, p', d, a, b, c', x⟩ = hs from ⟨rfl, by unfold hdS; rw [if_pos rfl, if_neg (by omega)]⟩)
    rw [hlt] at k0
    clear hlt ht
    go_enter Try.func27, Try.ntmps27
    go_wp2_with fail
    go_ret
    rw [HR.out.1, HR.out.2]
    exact ⟨rfl, HS.out.tk.tail⟩
  · have HR := Lib.hid (show hdB c p hs ⟨2, p', d, a, b, c', x⟩ = true ∧ hdS c hs ⟨2, p', d, a, b, c', x⟩ = ⟨hs.t, amO c.ds.length c.ps.length hs.O hs.L d a, amL c.ds.length c.ps.length c.qt.toNat hs.L d a⟩ from ⟨rfl, rfl⟩)
    go_enter Try.func27, Try.ntmps27
    go_wp2_with fail
    refine (tk_amove d a _ HS.out.tk (i := 6) rfl).mono ?_
    rintro e w2 ⟨rfl, t2⟩
    have T2 := Lib.hid t2
    clear t2 HS k0 k1 k2 f0 s0 s1 s2 s3 s4 s5 s6
    go_wp2_with fail
    go_ret
    rw [HR.out.1, HR.out.2]
    exact ⟨rfl, T2.out.tail⟩
  · have HR := Lib.hid (show hdB c p hs ⟨3, p', d, a, b, c', x⟩ = flI c (aoX c.ds.length hs.O hs.L d) p ∧ hdS c hs ⟨3, p', d, a, b, c', x⟩ = hs from ⟨by unfold hdB; rw [if_pos (by dsimp only; omega)], rfl⟩)
    go_enter Try.func27, Try.ntmps27
    go_wp2_with fail
    generalize w.alloc (.cells #[.int .i64 3, .int .i64 p', .int .i64 d, .int .i64 a, .int .i64 b, .int .i64 c', .string x] 39) = w1 at *
    generalize w.heap.size = y at *
    have hS := HS.out
    clear s0 s1 s3 s4 s5 s6 k0 f0
    go_region_held3 (fun w' => w'.cell? ⟨i.gd, 0, none⟩ = some (.pointer (some ⟨i.g, 0, none⟩)) ∧ w'.cell? ⟨i.gl, 0, none⟩ = some (.func (.func 25) #[] #[.pointer (some ⟨i.gc, 0, none⟩), .pointer (some ⟨i.gF, 0, none⟩)]) ∧ w'.cell? ⟨y, 2, none⟩ = some (.int .i64 d) ∧ HrS S W0 i c p hs os y ⟨3, p', d, a, b, c', x⟩ w')
      ((go_split_ands; refine HrS.held (i := i) (s := ⟨3, p', d, a, b, c', x⟩) ?_; (first | with_reducible assumption | with_reducible exact HrS.drew (by assumption) | with_reducible exact HrS.next (by assumption) (by assumption))))
      (first
        | (go_at_call 30; go_split_ands; refine (aowner_any d _ (Tk.pa (HrS.tk (S := S) (W0 := W0) (i := i) (c := c) (p := p) (hs := hs) (os := os) (y := y) (s := ⟨3, p', d, a, b, c', x⟩) (by assumption)) (i := 6) rfl)).mono ?_; rintro e w5 ⟨rfl, b5⟩)
        | (go_at_call 25; go_split_ands; refine (HrS.flow (S := S) (W0 := W0) (i := i) (c := c) (p := p) (hs := hs) (os := os) (y := y) (s := ⟨3, p', d, a, b, c', x⟩) (by assumption) h4 _).mono ?_; rintro e w6 ⟨rfl, b6⟩))
    all_goals
      rename_i hH
      have T9 := Lib.hid hH.2.2.2.tk.tail
      clear hH HS hS k1 k2 s2
      go_wp2_with fail
      go_ret
      rw [HR.out.1, HR.out.2]
      exact ⟨rfl, T9.out⟩
  · have HR := Lib.hid (show hdB c p hs ⟨4, p', d, a, b, c', x⟩ = flI c (aoX c.ds.length hs.O hs.L d) p ∧ hdS c hs ⟨4, p', d, a, b, c', x⟩ = hs from ⟨by unfold hdB; rw [if_pos (by dsimp only; omega)], rfl⟩)
    go_enter Try.func27, Try.ntmps27
    go_wp2_with fail
    generalize w.alloc (.cells #[.int .i64 4, .int .i64 p', .int .i64 d, .int .i64 a, .int .i64 b, .int .i64 c', .string x] 39) = w1 at *
    generalize w.heap.size = y at *
    have hS := HS.out
    clear s0 s1 s3 s4 s5 s6 k0 f0
    go_region_held3 (fun w' => w'.cell? ⟨i.gd, 0, none⟩ = some (.pointer (some ⟨i.g, 0, none⟩)) ∧ w'.cell? ⟨i.gl, 0, none⟩ = some (.func (.func 25) #[] #[.pointer (some ⟨i.gc, 0, none⟩), .pointer (some ⟨i.gF, 0, none⟩)]) ∧ w'.cell? ⟨y, 2, none⟩ = some (.int .i64 d) ∧ HrS S W0 i c p hs os y ⟨4, p', d, a, b, c', x⟩ w')
      ((go_split_ands; refine HrS.held (i := i) (s := ⟨4, p', d, a, b, c', x⟩) ?_; (first | with_reducible assumption | with_reducible exact HrS.drew (by assumption) | with_reducible exact HrS.next (by assumption) (by assumption))))
      (first
        | (go_at_call 30; go_split_ands; refine (aowner_any d _ (Tk.pa (HrS.tk (S := S) (W0 := W0) (i := i) (c := c) (p := p) (hs := hs) (os := os) (y := y) (s := ⟨4, p', d, a, b, c', x⟩) (by assumption)) (i := 6) rfl)).mono ?_; rintro e w5 ⟨rfl, b5⟩)
        | (go_at_call 25; go_split_ands; refine (HrS.flow (S := S) (W0 := W0) (i := i) (c := c) (p := p) (hs := hs) (os := os) (y := y) (s := ⟨4, p', d, a, b, c', x⟩) (by assumption) h4 _).mono ?_; rintro e w6 ⟨rfl, b6⟩))
    all_goals
      rename_i hH
      have T9 := Lib.hid hH.2.2.2.tk.tail
      clear hH HS hS k1 k2 s2
      go_wp2_with fail
      go_ret
      rw [HR.out.1, HR.out.2]
      exact ⟨rfl, T9.out⟩
  · have HR := Lib.hid (show hdB c p hs ⟨k, p', d, a, b, c', x⟩ = flI c p' p ∧ hdS c hs ⟨k, p', d, a, b, c', x⟩ = hs from ⟨by unfold hdB; rw [if_neg (by dsimp only; omega), if_pos ⟨ha, hb⟩], by unfold hdS; rw [if_neg (by dsimp only; omega), if_neg (by dsimp only; omega)]⟩)
    have e1 : (k == 1) = false := beq_eq_false_iff_ne.2 (by omega)
    have e2 : (k == 2) = false := beq_eq_false_iff_ne.2 (by omega)
    have e3 : (k == 3) = false := beq_eq_false_iff_ne.2 (by omega)
    have e4 : (k == 4) = false := beq_eq_false_iff_ne.2 (by omega)
    have HF := Lib.hid (HS.out.flow h4 p')
    go_enter Try.func27, Try.ntmps27
    go_wp2_with fail
    refine HF.out.mono ?_
    rintro e w2 ⟨rfl, b2⟩
    have T2 := Lib.hid (HS.out.tk.next b2)
    clear b2 HS HF k0 k1 k2 f0 s0 s1 s2 s3 s4 s5 s6
    go_wp2_with fail
    go_ret
    rw [HR.out.1, HR.out.2]
    exact ⟨rfl, T2.out.tail⟩
  · have HR := Lib.hid (show hdB c p hs ⟨k, p', d, a, b, c', x⟩ = true ∧ hdS c hs ⟨k, p', d, a, b, c', x⟩ = hs from ⟨by unfold hdB; rw [if_neg (by dsimp only; omega), if_neg (by dsimp only; omega)], by unfold hdS; rw [if_neg (by dsimp only; omega), if_neg (by dsimp only; omega)]⟩)
    have e1 : (k == 1) = false := beq_eq_false_iff_ne.2 (by omega)
    have e2 : (k == 2) = false := beq_eq_false_iff_ne.2 (by omega)
    have e3 : (k == 3) = false := beq_eq_false_iff_ne.2 (by omega)
    have e4 : (k == 4) = false := beq_eq_false_iff_ne.2 (by omega)
    have e5 : decide (5 ≤ k) = false := by simp; omega
    have e6 : decide (k ≤ 16) = true := by simp; omega
    clear ha
    go_enter Try.func27, Try.ntmps27
    go_wp2_with fail
    go_ret
    rw [HR.out.1, HR.out.2]
    exact ⟨rfl, HS.out.tk.tail⟩
  · have HR := Lib.hid (show hdB c p hs ⟨k, p', d, a, b, c', x⟩ = true ∧ hdS c hs ⟨k, p', d, a, b, c', x⟩ = hs from ⟨by unfold hdB; rw [if_neg (by dsimp only; omega), if_neg (by dsimp only; omega)], by unfold hdS; rw [if_neg (by dsimp only; omega), if_neg (by dsimp only; omega)]⟩)
    have e1 : (k == 1) = false := beq_eq_false_iff_ne.2 (by omega)
    have e2 : (k == 2) = false := beq_eq_false_iff_ne.2 (by omega)
    have e3 : (k == 3) = false := beq_eq_false_iff_ne.2 (by omega)
    have e4 : (k == 4) = false := beq_eq_false_iff_ne.2 (by omega)
    have e5 : decide (5 ≤ k) = true := by simp; omega
    have e6 : decide (k ≤ 16) = false := by simp; omega
    clear ha
    go_enter Try.func27, Try.ntmps27
    go_wp2_with fail
    go_ret
    rw [HR.out.1, HR.out.2]
    exact ⟨rfl, HS.out.tk.tail⟩
end
end Go.Proofs.Ytkaalinoiilmoaa
namespace Go.Proofs.Ytkaalinoiilmoaa
open Go.RowKit Go.ChangeMaps
set_option linter.unusedVariables false
set_option linter.unusedSimpArgs false
set_option maxRecDepth 100000
theorem stcs_set : ∀ (l : List Stp) (k : Nat) (x : Stp), k < l.length →
    (((((((stcs l).set (k * 7) (.int .i64 x.k)).set (k * 7 + 1) (.int .i64 x.p)).set (k * 7 + 2) (.int .i64 x.d)).set (k * 7 + 3) (.int .i64 x.a)).set (k * 7 + 4) (.int .i64 x.b)).set (k * 7 + 5) (.int .i64 x.c)).set (k * 7 + 6) (.string x.s) = stcs (l.set k x) := by
  intro l
  induction l with
  | nil => intro k x h; simp at h
  | cons y l ih =>
    intro k x h
    match k with
    | 0 =>
      rw [List.set_cons_zero, stcs_cons, stcs_cons]
      simp [stc]
    | k + 1 =>
      have := ih k x (by simpa using h)
      rw [List.set_cons_succ, stcs_cons, stcs_cons, ← this, show (k + 1) * 7 = k * 7 + 7 by omega]
      have e : ∀ (m : List Value) (j : Nat) (v : Value), (stc y ++ m).set (j + 7) v = stc y ++ m.set j v := by intro m j v; rfl
      rw [show k * 7 + 7 + 1 = k * 7 + 1 + 7 by omega, show k * 7 + 7 + 2 = k * 7 + 2 + 7 by omega, show k * 7 + 7 + 3 = k * 7 + 3 + 7 by omega, show k * 7 + 7 + 4 = k * 7 + 4 + 7 by omega, show k * 7 + 7 + 5 = k * 7 + 5 + 7 by omega, show k * 7 + 7 + 6 = k * 7 + 6 + 7 by omega]
      simp only [e]
theorem infoStep : (Try.prog.info? 39).map (fun i => (i.zero, i.size, i.bytes)) = some (some (.agg #[.int .i64 0, .int .i64 0, .int .i64 0, .int .i64 0, .int .i64 0, .int .i64 0, .string ⟨#[]⟩]), 7, 64) := by kernel_rfl
theorem made_steps (n : Nat) : madeCells (Value.agg #[.int .i64 0, .int .i64 0, .int .i64 0, .int .i64 0, .int .i64 0, .int .i64 0, .string ⟨#[]⟩]).cells (n * 7) = (stcs (List.replicate n stD)).toArray := by
  apply Array.ext_getElem?
  intro i
  by_cases h : i < n * 7
  · have e := stcs_get (List.replicate n stD) (i / 7) (i % 7) (by rw [List.length_replicate]; omega) (by omega)
    rw [show i / 7 * 7 + i % 7 = i by omega] at e
    have e2 : (List.replicate n stD).getD (i / 7) stD = stD := by
      simp only [List.getD, List.getElem?_replicate]; split <;> rfl
    rw [e2] at e
    have e3 : (stcs (List.replicate n stD)).toArray[i]? = (stcs (List.replicate n stD))[i]? := by simp
    rw [e3, e]
    unfold madeCells
    rw [Array.getElem?_map, Array.getElem?_range]
    rw [if_pos h]
    have h7 := Nat.mod_lt i (show 7 > 0 by omega)
    show some ((#[Value.int .i64 0, .int .i64 0, .int .i64 0, .int .i64 0, .int .i64 0, .int .i64 0, .string ⟨#[]⟩] : Array Value)[i % 7]!) = _
    generalize i % 7 = j at *
    rcases (show j = 0 ∨ j = 1 ∨ j = 2 ∨ j = 3 ∨ j = 4 ∨ j = 5 ∨ j = 6 by omega) with rfl | rfl | rfl | rfl | rfl | rfl | rfl <;> rfl
  · rw [Array.getElem?_eq_none (by rw [size_madeCells]; omega), List.getElem?_toArray, List.getElem?_eq_none (by rw [stcs_len, List.length_replicate]; omega)]
theorem make_steps (n : Nat) (hn : n * 64 ≤ 281474976710656) (W : World) : (Instr.makeSlice 32 (.int .i64 (n : Int)) (.int .i64 (n : Int))).run Try.prog W = .ok (.slice (some ⟨W.heap.size, 0, none⟩) n n) (W.alloc (.cells (stcs (List.replicate n stD)).toArray 39)) := by
  obtain ⟨i0, hi, hz0, hz1, hz2⟩ := info_parts infoStep
  have := run_make (P := Try.prog) W 32 39 i0 _ Try.underlying32 hi hz0 .i64 .i64 n n (by omega) (by omega) (by rw [hz2]; omega) (by omega)
  rw [this, Int.toNat_natCast, hz1, made_steps]
def pgm (P : List Stp) (k : Nat) : List Stp := (List.range P.length).map (fun i => if i < k then P.getD i stD else stD)
theorem pgm_len (P : List Stp) (k : Nat) : (pgm P k).length = P.length := by simp [pgm]
theorem pgm_zero (P : List Stp) : pgm P 0 = List.replicate P.length stD := by
  unfold pgm
  apply List.ext_getElem?
  intro i
  simp only [List.getElem?_map, List.getElem?_replicate]
  by_cases h : i < P.length
  · simp [List.getElem?_range h, h]
  · rw [List.getElem?_eq_none (by simpa using h)]; simp [h]
theorem pgm_all (P : List Stp) : pgm P P.length = P := by
  unfold pgm
  apply List.ext_getElem?
  intro i
  by_cases h : i < P.length
  · simp [List.getElem?_range h, h]
  · rw [List.getElem?_eq_none (by simpa using h), List.getElem?_eq_none (by omega)]
theorem pgm_set (P : List Stp) (k : Nat) (h : k < P.length) : (pgm P k).set k (P.getD k stD) = pgm P (k + 1) := by
  unfold pgm
  apply List.ext_getElem?
  intro i
  rw [List.getElem?_set]
  by_cases hi : i < P.length
  · simp only [List.getElem?_map, List.getElem?_range hi, Option.map_some, List.length_map, List.length_range, h, if_true]
    by_cases e : k = i
    · subst e; simp
    · rw [if_neg e]
      by_cases h2 : i < k
      · rw [if_pos h2, if_pos (by omega)]
      · rw [if_neg h2, if_neg (by omega)]
  · rw [if_neg (by omega), List.getElem?_eq_none (by simpa using hi), List.getElem?_eq_none (by simpa using hi)]
theorem pgm_same (P : List Stp) (k : Nat) (h : P.getD k stD = stD) : pgm P (k + 1) = pgm P k := by
  unfold pgm
  refine List.map_congr_left (fun i _ => ?_)
  by_cases e : i = k
  · subst e; rw [if_pos (by omega), if_neg (by omega), h]
  · by_cases h2 : i < k
    · rw [if_pos (by omega), if_pos h2]
    · rw [if_neg (by omega), if_neg h2]
theorem hdW_t (c : Cf) : ∀ (l : List Stp) (h : Hs), h.t ≤ 1048575 → (hdW c h l).t ≤ 1048575 := by
  intro l
  induction l with
  | nil => exact fun h h1 => h1
  | cons s l ih =>
    intro h h1
    refine ih _ ?_
    unfold hdS
    split
    · split
      · dsimp only; omega
      · exact h1
    · split
      · exact h1
      · exact h1
theorem rowC7 {w : World} {g : Nat} {t : TypeId} {cs : List Value} {a : Nat} (h : Blk w g t cs) (hl : a + 6 < cs.length) : (∃ v, w.cell? ⟨g, a, none⟩ = some v) ∧ (∃ v, w.cell? ⟨g, a + 1, none⟩ = some v) ∧ (∃ v, w.cell? ⟨g, a + 2, none⟩ = some v) ∧ (∃ v, w.cell? ⟨g, a + 3, none⟩ = some v) ∧ (∃ v, w.cell? ⟨g, a + 4, none⟩ = some v) ∧ (∃ v, w.cell? ⟨g, a + 5, none⟩ = some v) ∧ (∃ v, w.cell? ⟨g, a + 6, none⟩ = some v) := by
  have e : ∀ j, j < cs.length → ∃ v, w.cell? ⟨g, j, none⟩ = some v := fun j hj => ⟨_, (h.cell j).trans (List.getElem?_eq_getElem hj)⟩
  exact ⟨e _ (by omega), e _ (by omega), e _ (by omega), e _ (by omega), e _ (by omega), e _ (by omega), e _ hl⟩
section
variable {w : World} {c : Cf} {vp vd vw vg : Value}
set_option maxHeartbeats 2000000 in
theorem vpurge_no (hc : CfAt w vp vd vw vg c) (v : Value) (p : Int) (hno : ¬ (cfMay c = true ∧ inP c.ps.length p = true)) :
    Calls Try.prog 12 #[.agg #[.int .i64 c.fr, vp, vd, .int .i64 c.mj, vw, vg, .int .i64 c.se, .int .i64 c.qu, .int .i64 c.qt], v, .int .i64 p] w fun e w' => e = .returned (.tuple #[.slice none 0 0, .int .i64 2300]) ∧ Below w.heap.size w w' := by
  obtain ⟨hb, hB⟩ := cf_box w c vp vd vw vg
  have HBB := Lib.hid hb; have HB := Lib.hid hB; have HA := Lib.hid (hc.below hB)
  obtain ⟨q0, q1, q2, q3, q4, q5, q6, q7, q8⟩ := cf_at hb
  clear hb hB hc
  have HM := Lib.hid (cmay_any HA.out)
  cases hm : cfMay c with
  | false =>
    rw [hm] at HM
    clear hm hno
    go_enter Try.func12, Try.ntmps12
    go_wp2_with fail
    refine HM.out.mono ?_
    rintro e w1 ⟨rfl, b1⟩
    have HB1 := Lib.hid b1
    clear b1
    go_wp2_with fail
    go_ret2
    exact ⟨rfl, Below.down HB.out HB1.out HB.out.size⟩
  | true =>
    rw [hm] at HM
    have hy : inP c.ps.length p = false := by
      cases h : inP c.ps.length p with
      | false => rfl
      | true => exact absurd ⟨hm, h⟩ hno
    have HH := Lib.hid (fun W hW => (vhaspart_any (w := W) (HA.out.below hW) p))
    rw [hy] at HH
    clear hm hy hno
    go_enter Try.func12, Try.ntmps12
    go_wp2_with fail
    generalize w.alloc (.cells #[.int .i64 c.fr, vp, vd, .int .i64 c.mj, vw, vg, .int .i64 c.se, .int .i64 c.qu, .int .i64 c.qt] 27) = w0 at *
    refine HM.out.mono ?_
    rintro e w1 ⟨rfl, b1⟩
    obtain ⟨q0, q1, q2, q3, q4, q5, q6, q7, q8⟩ := cf_at (HBB.out.below b1 HBB.out.lt)
    have HB1 := Lib.hid b1
    clear b1
    go_wp2_with fail
    refine (HH.out w1 HB1.out).mono ?_
    rintro e w2 ⟨rfl, b2⟩
    have HB2 := Lib.hid (Below.down HB1.out b2 HB1.out.size)
    clear b2
    go_wp2_with fail
    go_ret2
    exact ⟨rfl, Below.down HB.out HB2.out HB.out.size⟩
set_option maxHeartbeats 4000000 in
theorem vpurge_yes (hc : CfAt w vp vd vw vg c) (hm : cfMay c = true) (p : Nat) (hp : p < c.ps.length) (v : Value) (l : List Stp) (hv : Sl w v l.length 7 (stcs l)) (hn : l.length * 64 ≤ 140737488351232) :
    Calls Try.prog 12 #[.agg #[.int .i64 c.fr, vp, vd, .int .i64 c.mj, vw, vg, .int .i64 c.se, .int .i64 c.qu, .int .i64 c.qt], v, .int .i64 (p : Int)] w fun e w' => ∃ g, e = .returned (.tuple #[.slice (some ⟨g, 0, none⟩) l.length l.length, .int .i64 0]) ∧ Tk nos w [obB g 39 (stcs (pgL c p (hsNew c) l))] w' := by
  obtain ⟨hb, hB⟩ := cf_box w c vp vd vw vg
  have HBB := Lib.hid hb; have HB := Lib.hid hB; have HA := Lib.hid (hc.below hB); have HCW := Lib.hid hc
  obtain ⟨q0, q1, q2, q3, q4, q5, q6, q7, q8⟩ := cf_at hb
  have HV := Lib.hid hv
  obtain ⟨A, cap, rfl, hcap, -, -⟩ := hv
  have HM := Lib.hid (cmay_any HA.out)
  have HH := Lib.hid (fun W hW => (vhaspart_any (w := W) (HA.out.below hW) (p : Int)))
  rw [hm] at HM
  rw [inP_at hp] at HH
  have HC := Lib.hid hm; have HP := Lib.hid hp
  clear hb hB hc hm hp
  obtain ⟨n, hl⟩ : ∃ n, l.length = n := ⟨_, rfl⟩
  have HL := Lib.hid hl
  rw [hl] at HV hn ⊢
  have hmk := fun W => make_steps n (by omega) W
  clear hl hcap
  go_enter Try.func12, Try.ntmps12
  go_wp2_with fail
  generalize w.alloc (.cells #[.int .i64 c.fr, vp, vd, .int .i64 c.mj, vw, vg, .int .i64 c.se, .int .i64 c.qu, .int .i64 c.qt] 27) = w0 at *
  refine HM.out.mono ?_
  rintro e w1 ⟨rfl, b1⟩
  obtain ⟨q0, q1, q2, q3, q4, q5, q6, q7, q8⟩ := cf_at (HBB.out.below b1 HBB.out.lt)
  have HB1 := Lib.hid b1
  clear b1
  go_wp2_with fail
  refine (HH.out w1 HB1.out).mono ?_
  rintro e w2 ⟨rfl, b2⟩
  have HB2 := Lib.hid (Below.down HB1.out b2 HB1.out.size)
  clear b2 q0 q1 q2 q3 q4 q5 q6 q7 q8
  obtain ⟨q0, q1, q2, q3, q4, q5, q6, q7, q8⟩ := cf_at (HBB.out.below HB2.out HBB.out.lt)
  go_wp2_with fail
  refine (vhearing_any (HA.out.below HB2.out) HC.out p HP.out).mono ?_
  rintro e w3 ⟨ic, rfl, hic, t3⟩
  have T3 := Lib.hid (show Tk nos w (hO ic c p (hsNew c) []) w3 by
    have := ((Tk.empty w).next (Below.down HB.out HB2.out HB.out.size)).add t3
    rwa [List.append_nil] at this)
  obtain ⟨rfl, rfl, rfl, rfl⟩ := hic
  clear t3 q0 q1 q2 q3 q4 q5 q6 q7 q8
  unfold heV
  go_wp2_with fail
  obtain ⟨P, hP⟩ : ∃ P, pgL c p (hsNew c) l = P := ⟨_, rfl⟩
  have HPL := Lib.hid (show P.length = n by rw [← hP, pgL_len, HL.out])
  have HPA := Lib.hid (fun k (hk : k < n) => (show P.getD k stD = if hdB c p (hdW c (hsNew c) (l.take k)) (l.getD k stD) then l.getD k stD else stD by rw [← hP]; exact pgL_at c p l _ k (by rw [HL.out]; exact hk)))
  have HPE := Lib.hid hP
  have t4 : Tk nos w (hO ic c p (hsNew c) [obB w3.heap.size 39 (stcs (pgm P 0))]) (w3.alloc (.cells (stcs (List.replicate n stD)).toArray 39)) := by
    have := T3.out.alloc 39 (stcs (List.replicate n stD))
    rw [pgm_zero, HPL.out]
    exact this.perm (List.perm_append_comm (l₁ := [_]))
  have T4 := Lib.hid t4
  clear t4 T3 hP hmk
  generalize w3.alloc (.cells (stcs (List.replicate n stD)).toArray 39) = w4 at *
  generalize w3.heap.size = gL at *
  go_loopw [29, 10, 11] (fun i a b wr => ∃ (k : Nat), k ≤ n ∧ i = .int .i64 k ∧ a = a ∧ b = b ∧ Hid (Tk nos w (hO ic c p (hdW c (hsNew c) (l.take k)) [obB gL 39 (stcs (pgm P k))]) wr)) (fun i _ _ _ => n - (intOf i).toNat)
  case atStart => exact ⟨0, by omega, rfl, rfl, rfl, T4⟩
  case round =>
    clear T4
    obtain ⟨k, hkn, rfl, -, -, HT⟩ := hrel
    by_cases hlt : k < n
    · have hltI : (k : Int) < n := by omega
      have hbel := HT.out.below
      obtain ⟨sb, so, rfl, -, c0, c1, c2, c3, c4, c5, c6⟩ := stcs_at (HV.out.below hbel) HL.out k hlt
      have hPA := HPA.out k hlt
      have hW1 := hdW_succ c (hsNew c) l k (by rw [HL.out]; exact hlt)
      have hWt := hdW_t c (l.take k) (hsNew c) (Nat.zero_le _)
      generalize hdW c (hsNew c) (l.take k) = hs at *
      generalize l.getD k stD = x at *
      have t1 := (HT.out.alloc 39 (stc x)).perm (List.perm_append_comm (l₁ := [_]))
      have T1 : Hid (Tk nos w (hO ic c p hs [obB gL 39 (stcs (pgm P k)), obB wr.heap.size 39 (stc x)]) (wr.alloc (.cells (stc x).toArray 39))) := Lib.hid t1
      obtain ⟨s0, s1, s2, s3, s4, s5, s6⟩ := stp_cells (T1.out.blk (i := 7) rfl)
      have HPAk := Lib.hid hPA; have HW1 := Lib.hid hW1; have HWt := Lib.hid hWt
      clear t1 hbel hPA hW1 hWt
      go_wp2_with fail
      refine (tk_hear HC.out HWt.out (HCW.out.below T1.out.below) T1.out x).mono ?_
      rintro e w5 ⟨rfl, t5⟩
      rw [← HW1.out] at t5
      have T5 := Lib.hid t5
      have X5 := t5.blk (i := 6) rfl
      obtain ⟨s0, s1, s2, s3, s4, s5, s6⟩ := stp_cells (t5.blk (i := 7) rfl)
      clear t5 T1 HT
      cases hh : hdB c p hs x with
      | false =>
        have HX := Lib.hid (show pgm P (k + 1) = pgm P k from pgm_same P k (by rw [HPAk.out, hh]; rfl))
        clear hh X5
        go_wp2_with fail
        go_roundw
        case rel => exact ⟨k + 1, by omega, by go_num, trivial, trivial, Lib.hid (by rw [HX.out]; exact T5.out.sub (List.Sublist.append_left (List.sublist_append_left [_] [_]) (hO ic c p _ [])))⟩
        case measure => simp [intOf]; omega
      | true =>
        have HX := Lib.hid (show (pgm P k).set k x = pgm P (k + 1) by rw [← pgm_set P k (by rw [HPL.out]; exact hlt), HPAk.out, hh]; rfl)
        have hlen : k * 7 + 6 < (stcs (pgm P k)).length := by rw [stcs_len, pgm_len, HPL.out]; omega
        have T6 : Hid (Tk nos w (hO ic c p (hdW c (hsNew c) (l.take (k + 1))) [obB gL 39 (stcs (pgm P (k + 1))), obB wr.heap.size 39 (stc x)]) (((((((w5.setCell ⟨gL, k * 7, none⟩ (.int .i64 x.k)).setCell ⟨gL, k * 7 + 1, none⟩ (.int .i64 x.p)).setCell ⟨gL, k * 7 + 2, none⟩ (.int .i64 x.d)).setCell ⟨gL, k * 7 + 3, none⟩ (.int .i64 x.a)).setCell ⟨gL, k * 7 + 4, none⟩ (.int .i64 x.b)).setCell ⟨gL, k * 7 + 5, none⟩ (.int .i64 x.c)).setCell ⟨gL, k * 7 + 6, none⟩ (.string x.s))) := Lib.hid (by
          have t6 := ((((((T5.out.store (i := 6) rfl (k * 7) (.int .i64 x.k)).store (i := 6) rfl (k * 7 + 1) (.int .i64 x.p)).store (i := 6) rfl (k * 7 + 2) (.int .i64 x.d)).store (i := 6) rfl (k * 7 + 3) (.int .i64 x.a)).store (i := 6) rfl (k * 7 + 4) (.int .i64 x.b)).store (i := 6) rfl (k * 7 + 5) (.int .i64 x.c)).store (i := 6) rfl (k * 7 + 6) (.string x.s)
          rw [← HX.out, ← stcs_set _ k x (by rw [pgm_len, HPL.out]; exact hlt)]
          exact t6)
        obtain ⟨⟨v0, d0⟩, ⟨v1, d1⟩, ⟨v2, d2⟩, ⟨v3, d3⟩, ⟨v4, d4⟩, ⟨v5, d5⟩, ⟨v6, d6⟩⟩ := rowC7 X5 hlen
        have f0 := X5.frozen (k * 7)
        have f1 := X5.frozen (k * 7 + 1)
        have f2 := X5.frozen (k * 7 + 2)
        have f3 := X5.frozen (k * 7 + 3)
        have f4 := X5.frozen (k * 7 + 4)
        have f5 := X5.frozen (k * 7 + 5)
        have f6 := X5.frozen (k * 7 + 6)
        clear hh X5 hlen
        go_wp2_with fail
        go_roundw
        case rel => exact ⟨k + 1, by omega, by go_num, trivial, trivial, Lib.hid (T6.out.sub (List.Sublist.append_left (List.sublist_append_left [_] [_]) (hO ic c p _ [])))⟩
        case measure => simp [intOf]; omega
    · obtain rfl : k = n := by omega
      have hlk : l.take k = l := List.take_of_length_le (by rw [HL.out]; omega)
      have hpk : pgm P k = P := by rw [← HPL.out]; exact pgm_all P
      rw [hpk] at HT
      clear hlk hpk
      go_wp2_with fail
      go_ret2
      exact ⟨gL, rfl, by rw [HPE.out]; exact HT.out.sub (List.sublist_append_right (hO ic c p _ []) [_])⟩
end
end Go.Proofs.Ytkaalinoiilmoaa
namespace Go.Proofs.Ytkaalinoiilmoaa
open Go.RowKit
set_option linter.unusedVariables false
set_option linter.unusedSimpArgs false
set_option maxRecDepth 100000
def dec (x : De × Value) : List Value := [.int .i64 x.1.pt, x.2]
def dcl (L : List (De × Value)) : List Value := L.flatMap dec
theorem dcl_get (L : List (De × Value)) : ∀ i (h : i < L.length), (dcl L)[i * 2]? = some (.int .i64 L[i].1.pt) ∧ (dcl L)[i * 2 + 1]? = some L[i].2 := by
  induction L with
  | nil => intro i h; simp at h
  | cons p L ih =>
    intro i h
    have e : dcl (p :: L) = dec p ++ dcl L := by simp [dcl]
    match i with
    | 0 => rw [e]; simp [dec]
    | i + 1 =>
      have := ih i (by simpa using h)
      have hp : (dec p).length = 2 := rfl
      rw [e, List.getElem?_append_right (by omega), List.getElem?_append_right (by omega), hp]
      rw [show (i + 1) * 2 - 2 = i * 2 by omega, show (i + 1) * 2 + 1 - 2 = i * 2 + 1 by omega]
      simpa using this
end Go.Proofs.Ytkaalinoiilmoaa
namespace Go.Proofs.Ytkaalinoiilmoaa
open Go.RowKit
set_option linter.unusedVariables false
set_option linter.unusedSimpArgs false
set_option maxRecDepth 100000
structure P9 (w : World) (b1 b2 b3 b4 b5 b6 b7 b8 b9 : Nat) (x1 x2 x3 x4 x5 x6 x7 x8 x9 : List Value) : Prop where
  k1 : Blk w b1 3 x1
  k2 : Blk w b2 3 x2
  k3 : Blk w b3 3 x3
  k4 : Blk w b4 48 x4
  k5 : Blk w b5 3 x5
  k6 : Blk w b6 3 x6
  k7 : Blk w b7 64 x7
  k8 : Blk w b8 66 x8
  k9 : Blk w b9 50 x9
  ord : b1 < b2 ∧ b2 < b3 ∧ b3 < b4 ∧ b4 < b5 ∧ b5 < b6 ∧ b6 < b7 ∧ b7 < b8 ∧ b8 < b9
section
variable {w w' : World} {b1 b2 b3 b4 b5 b6 b7 b8 b9 : Nat} {x1 x2 x3 x4 x5 x6 x7 x8 x9 : List Value}
theorem P9.below (h : P9 w b1 b2 b3 b4 b5 b6 b7 b8 b9 x1 x2 x3 x4 x5 x6 x7 x8 x9) (hb : Below w.heap.size w w') : P9 w' b1 b2 b3 b4 b5 b6 b7 b8 b9 x1 x2 x3 x4 x5 x6 x7 x8 x9 :=
  ⟨h.k1.below hb h.k1.lt, h.k2.below hb h.k2.lt, h.k3.below hb h.k3.lt, h.k4.below hb h.k4.lt, h.k5.below hb h.k5.lt, h.k6.below hb h.k6.lt, h.k7.below hb h.k7.lt, h.k8.below hb h.k8.lt, h.k9.below hb h.k9.lt, h.ord⟩
theorem P9.far (h : P9 w b1 b2 b3 b4 b5 b6 b7 b8 b9 x1 x2 x3 x4 x5 x6 x7 x8 x9) {p : Addr} (hp : p.block < b1 ∨ b9 < p.block) (u : Value) : P9 (w.setCell p u) b1 b2 b3 b4 b5 b6 b7 b8 b9 x1 x2 x3 x4 x5 x6 x7 x8 x9 := by
  obtain ⟨o1, o2, o3, o4, o5, o6, o7, o8⟩ := h.ord
  exact ⟨h.k1.far (show b1 ≠ p.block by omega) u, h.k2.far (show b2 ≠ p.block by omega) u, h.k3.far (show b3 ≠ p.block by omega) u, h.k4.far (show b4 ≠ p.block by omega) u, h.k5.far (show b5 ≠ p.block by omega) u, h.k6.far (show b6 ≠ p.block by omega) u, h.k7.far (show b7 ≠ p.block by omega) u, h.k8.far (show b8 ≠ p.block by omega) u, h.k9.far (show b9 ≠ p.block by omega) u, h.ord⟩
theorem P9.s1 (h : P9 w b1 b2 b3 b4 b5 b6 b7 b8 b9 x1 x2 x3 x4 x5 x6 x7 x8 x9) (k : Nat) (u : Value) : P9 (w.setCell ⟨b1, k, none⟩ u) b1 b2 b3 b4 b5 b6 b7 b8 b9 (x1.set k u) x2 x3 x4 x5 x6 x7 x8 x9 := by
  obtain ⟨o1, o2, o3, o4, o5, o6, o7, o8⟩ := h.ord
  exact ⟨h.k1.set k u, h.k2.far (show b2 ≠ b1 by omega) u, h.k3.far (show b3 ≠ b1 by omega) u, h.k4.far (show b4 ≠ b1 by omega) u, h.k5.far (show b5 ≠ b1 by omega) u, h.k6.far (show b6 ≠ b1 by omega) u, h.k7.far (show b7 ≠ b1 by omega) u, h.k8.far (show b8 ≠ b1 by omega) u, h.k9.far (show b9 ≠ b1 by omega) u, h.ord⟩
theorem P9.s2 (h : P9 w b1 b2 b3 b4 b5 b6 b7 b8 b9 x1 x2 x3 x4 x5 x6 x7 x8 x9) (k : Nat) (u : Value) : P9 (w.setCell ⟨b2, k, none⟩ u) b1 b2 b3 b4 b5 b6 b7 b8 b9 x1 (x2.set k u) x3 x4 x5 x6 x7 x8 x9 := by
  obtain ⟨o1, o2, o3, o4, o5, o6, o7, o8⟩ := h.ord
  exact ⟨h.k1.far (show b1 ≠ b2 by omega) u, h.k2.set k u, h.k3.far (show b3 ≠ b2 by omega) u, h.k4.far (show b4 ≠ b2 by omega) u, h.k5.far (show b5 ≠ b2 by omega) u, h.k6.far (show b6 ≠ b2 by omega) u, h.k7.far (show b7 ≠ b2 by omega) u, h.k8.far (show b8 ≠ b2 by omega) u, h.k9.far (show b9 ≠ b2 by omega) u, h.ord⟩
theorem P9.s3 (h : P9 w b1 b2 b3 b4 b5 b6 b7 b8 b9 x1 x2 x3 x4 x5 x6 x7 x8 x9) (k : Nat) (u : Value) : P9 (w.setCell ⟨b3, k, none⟩ u) b1 b2 b3 b4 b5 b6 b7 b8 b9 x1 x2 (x3.set k u) x4 x5 x6 x7 x8 x9 := by
  obtain ⟨o1, o2, o3, o4, o5, o6, o7, o8⟩ := h.ord
  exact ⟨h.k1.far (show b1 ≠ b3 by omega) u, h.k2.far (show b2 ≠ b3 by omega) u, h.k3.set k u, h.k4.far (show b4 ≠ b3 by omega) u, h.k5.far (show b5 ≠ b3 by omega) u, h.k6.far (show b6 ≠ b3 by omega) u, h.k7.far (show b7 ≠ b3 by omega) u, h.k8.far (show b8 ≠ b3 by omega) u, h.k9.far (show b9 ≠ b3 by omega) u, h.ord⟩
theorem P9.s4 (h : P9 w b1 b2 b3 b4 b5 b6 b7 b8 b9 x1 x2 x3 x4 x5 x6 x7 x8 x9) (k : Nat) (u : Value) : P9 (w.setCell ⟨b4, k, none⟩ u) b1 b2 b3 b4 b5 b6 b7 b8 b9 x1 x2 x3 (x4.set k u) x5 x6 x7 x8 x9 := by
  obtain ⟨o1, o2, o3, o4, o5, o6, o7, o8⟩ := h.ord
  exact ⟨h.k1.far (show b1 ≠ b4 by omega) u, h.k2.far (show b2 ≠ b4 by omega) u, h.k3.far (show b3 ≠ b4 by omega) u, h.k4.set k u, h.k5.far (show b5 ≠ b4 by omega) u, h.k6.far (show b6 ≠ b4 by omega) u, h.k7.far (show b7 ≠ b4 by omega) u, h.k8.far (show b8 ≠ b4 by omega) u, h.k9.far (show b9 ≠ b4 by omega) u, h.ord⟩
theorem P9.s5 (h : P9 w b1 b2 b3 b4 b5 b6 b7 b8 b9 x1 x2 x3 x4 x5 x6 x7 x8 x9) (k : Nat) (u : Value) : P9 (w.setCell ⟨b5, k, none⟩ u) b1 b2 b3 b4 b5 b6 b7 b8 b9 x1 x2 x3 x4 (x5.set k u) x6 x7 x8 x9 := by
  obtain ⟨o1, o2, o3, o4, o5, o6, o7, o8⟩ := h.ord
  exact ⟨h.k1.far (show b1 ≠ b5 by omega) u, h.k2.far (show b2 ≠ b5 by omega) u, h.k3.far (show b3 ≠ b5 by omega) u, h.k4.far (show b4 ≠ b5 by omega) u, h.k5.set k u, h.k6.far (show b6 ≠ b5 by omega) u, h.k7.far (show b7 ≠ b5 by omega) u, h.k8.far (show b8 ≠ b5 by omega) u, h.k9.far (show b9 ≠ b5 by omega) u, h.ord⟩
theorem P9.s6 (h : P9 w b1 b2 b3 b4 b5 b6 b7 b8 b9 x1 x2 x3 x4 x5 x6 x7 x8 x9) (k : Nat) (u : Value) : P9 (w.setCell ⟨b6, k, none⟩ u) b1 b2 b3 b4 b5 b6 b7 b8 b9 x1 x2 x3 x4 x5 (x6.set k u) x7 x8 x9 := by
  obtain ⟨o1, o2, o3, o4, o5, o6, o7, o8⟩ := h.ord
  exact ⟨h.k1.far (show b1 ≠ b6 by omega) u, h.k2.far (show b2 ≠ b6 by omega) u, h.k3.far (show b3 ≠ b6 by omega) u, h.k4.far (show b4 ≠ b6 by omega) u, h.k5.far (show b5 ≠ b6 by omega) u, h.k6.set k u, h.k7.far (show b7 ≠ b6 by omega) u, h.k8.far (show b8 ≠ b6 by omega) u, h.k9.far (show b9 ≠ b6 by omega) u, h.ord⟩
theorem P9.s9 (h : P9 w b1 b2 b3 b4 b5 b6 b7 b8 b9 x1 x2 x3 x4 x5 x6 x7 x8 x9) (k : Nat) (u : Value) : P9 (w.setCell ⟨b9, k, none⟩ u) b1 b2 b3 b4 b5 b6 b7 b8 b9 x1 x2 x3 x4 x5 x6 x7 x8 (x9.set k u) := by
  obtain ⟨o1, o2, o3, o4, o5, o6, o7, o8⟩ := h.ord
  exact ⟨h.k1.far (show b1 ≠ b9 by omega) u, h.k2.far (show b2 ≠ b9 by omega) u, h.k3.far (show b3 ≠ b9 by omega) u, h.k4.far (show b4 ≠ b9 by omega) u, h.k5.far (show b5 ≠ b9 by omega) u, h.k6.far (show b6 ≠ b9 by omega) u, h.k7.far (show b7 ≠ b9 by omega) u, h.k8.far (show b8 ≠ b9 by omega) u, h.k9.set k u, h.ord⟩
end
def Rw (w : World) (v : Value) (l : List Int) : Prop := ∃ A c, v = .slice A l.length c ∧ Sl w v l.length 1 (ints l) ∧ (A = none → c = 0)
theorem Sl.blk {w : World} {b n cap size : Nat} {T : TypeId} {xs ys : List Value} (h : Blk w b T (xs ++ ys)) (hc : n ≤ cap) (hl : xs.length = n * size) : Sl w (.slice (some ⟨b, 0, none⟩) n cap) n size xs :=
  ⟨_, cap, rfl, hc, hl, fun h0 => ⟨b, 0, rfl, h.lt, fun j u hu => by
    rw [Nat.zero_add, h.cell, List.getElem?_append_left (by have := (List.getElem?_eq_some_iff.1 hu).1; exact this)]
    exact hu⟩⟩
theorem Sl.blk0 {w : World} {b n cap size : Nat} {T : TypeId} {xs : List Value} (h : Blk w b T xs) (hc : n ≤ cap) (hl : xs.length = n * size) : Sl w (.slice (some ⟨b, 0, none⟩) n cap) n size xs :=
  Sl.blk (ys := []) (by rw [List.append_nil]; exact h) hc hl
theorem Rw.blk {w : World} {b cap : Nat} {T : TypeId} {l : List Int} (h : Blk w b T (ints l)) (hc : l.length ≤ cap) : Rw w (.slice (some ⟨b, 0, none⟩) l.length cap) l :=
  ⟨_, cap, rfl, Sl.blk0 h hc (by rw [ints_len]; omega), fun e => by cases e⟩
theorem Rw.nil (w : World) : Rw w (.slice none 0 0) [] := ⟨_, _, rfl, ⟨none, 0, rfl, Nat.le_refl _, rfl, fun h => absurd h (by simp)⟩, fun _ => rfl⟩
theorem all3 {α : Type} {p : α → Prop} {a b c : α} (h1 : p a) (h2 : p b) (h3 : p c) : ∀ x ∈ [a, b, c], p x := by
  intro x hx
  simp only [List.mem_cons, List.not_mem_nil, or_false] at hx
  rcases hx with rfl | rfl | rfl
  · exact h1
  · exact h2
  · exact h3
theorem all2 {α : Type} {p : α → Prop} {a b : α} (h1 : p a) (h2 : p b) : ∀ x ∈ [a, b], p x := by
  intro x hx
  simp only [List.mem_cons, List.not_mem_nil, or_false] at hx
  rcases hx with rfl | rfl
  · exact h1
  · exact h2
theorem PaS.blk {w : World} {b n cap : Nat} {L : List (Pa × Value)} {l : List Pa} (e : L.map (·.1) = l) (hn : n = l.length) (h : Blk w b 48 (pcl L)) (hf : ∀ x ∈ L, Rw w x.2 x.1.fr) : PaS w (.slice (some ⟨b, 0, none⟩) n cap) l := by
  subst hn
  have hl : l.length = L.length := by rw [← e, List.length_map]
  refine ⟨_, cap, rfl, fun h0 => ⟨b, 0, rfl, h.lt, fun i hi => ?_⟩⟩
  have hi' : i < L.length := by omega
  obtain ⟨h0, h1, h2, h3, h4⟩ := pcl_get L i hi'
  have hg : l.getD i paD = L[i].1 := by
    subst e
    simp [List.getD, List.getElem?_map, List.getElem?_eq_getElem hi']
  obtain ⟨A2, c2, e2, hs, hnl⟩ := hf _ (List.getElem_mem hi')
  rw [hg]
  rw [e2] at h2 hs
  simp only [Nat.zero_add]
  exact ⟨A2, c2, (h.cell _).trans h0, (h.cell _).trans h1, (h.cell _).trans h2, (h.cell _).trans h3, (h.cell _).trans h4, hs, hnl⟩
theorem PaS.nil (w : World) : PaS w (.slice none 0 0) [] := ⟨none, 0, rfl, fun h => absurd h (by simp)⟩
theorem DeS.blk {w : World} {b n cap : Nat} {L : List (De × Value)} {l : List De} (e : L.map (·.1) = l) (hn : n = l.length) (h : Blk w b 64 (dcl L)) (hf : ∀ x ∈ L, Rw w x.2 x.1.po) : DeS w (.slice (some ⟨b, 0, none⟩) n cap) l := by
  subst hn
  have hl : l.length = L.length := by rw [← e, List.length_map]
  refine ⟨_, cap, rfl, fun h0 => ⟨b, 0, rfl, h.lt, fun i hi => ?_⟩⟩
  have hi' : i < L.length := by omega
  obtain ⟨h0, h1⟩ := dcl_get L i hi'
  have hg : l.getD i deD = L[i].1 := by
    subst e
    simp [List.getD, List.getElem?_map, List.getElem?_eq_getElem hi']
  obtain ⟨A2, c2, e2, hs, hnl⟩ := hf _ (List.getElem_mem hi')
  rw [hg]
  rw [e2] at h1 hs
  simp only [Nat.zero_add]
  exact ⟨A2, c2, (h.cell _).trans h0, (h.cell _).trans h1, hs, hnl⟩
theorem DeS.nil (w : World) : DeS w (.slice none 0 0) [] := ⟨none, 0, rfl, fun h => absurd h (by simp)⟩
theorem Ws.nil (w : World) : Ws w (.slice none 0 0) 0 [] := ⟨⟨none, 0, rfl, Nat.le_refl _, rfl, fun h => absurd h (by simp)⟩, rfl, by unfold maxLen; omega, fun x hx => by cases hx⟩
theorem paz_of {l : List Pa} (hl : l.length ≤ 1000) (h : ∀ x ∈ l, x.fr.length ≤ 1000) : PaZ l := by
  refine ⟨by omega, fun i => ?_⟩
  by_cases hi : i < l.length
  · have := h _ (List.getElem_mem hi)
    simp only [List.getD, List.getElem?_eq_getElem hi, Option.getD_some]; omega
  · simp [List.getD, List.getElem?_eq_none (show l.length ≤ i by omega), paD]
theorem dez_of {l : List De} (hl : l.length ≤ 1000) (h : ∀ x ∈ l, x.po.length ≤ 1000) : DeZ l := by
  refine ⟨by omega, fun i => ?_⟩
  by_cases hi : i < l.length
  · have := h _ (List.getElem_mem hi)
    simp only [List.getD, List.getElem?_eq_getElem hi, Option.getD_some]; omega
  · simp [List.getD, List.getElem?_eq_none (show l.length ≤ i by omega), deD]
theorem some_nil {a : Addr} {n c : Nat} : ∀ m k, Value.slice (some a) n c = .slice none m k → k = 0 := fun m k e => by cases e
def plL (b1 b2 b3 : Nat) : List (Pa × Value) := [(⟨0, 0, [0, 1, 2], 0, 4⟩, .slice (some ⟨b1, 0, none⟩) 3 3), (⟨2, 0, [3, 4], 4, 4⟩, .slice (some ⟨b2, 0, none⟩) 2 2), (⟨1, 2, [5, 6], 8, 2⟩, .slice (some ⟨b3, 0, none⟩) 2 2)]
def plM (b5 b6 : Nat) : List (De × Value) := [(⟨0, [8, 9, 10]⟩, .slice (some ⟨b5, 0, none⟩) 3 3), (⟨2, [11, 12]⟩, .slice (some ⟨b6, 0, none⟩) 2 2)]
def plW : List Win := [⟨0, 0, 2, 1⟩, ⟨1, 2, 2, 2⟩, ⟨2, 4, 2, 5⟩]
def plG : List Gr := [⟨2, 2, false⟩]
def plP : List Pa := [⟨0, 0, [0, 1, 2], 0, 4⟩, ⟨2, 0, [3, 4], 4, 4⟩, ⟨1, 2, [5, 6], 8, 2⟩]
def plD_Ch3 : List De := [⟨0, [8, 9, 10]⟩, ⟨2, [11, 12]⟩]
def plC : Cf := ⟨16, plP, plD_Ch3, 6, plW, plG, 10, 6, 2⟩
theorem plW64 : ∀ x ∈ plW, W64 x := all3 (by unfold W64; simp) (by unfold W64; simp) (by unfold W64; simp)
abbrev Pl9 (w : World) (b1 b2 b3 b4 b5 b6 b7 b8 b9 : Nat) : Prop := P9 w b1 b2 b3 b4 b5 b6 b7 b8 b9 (ints [0, 1, 2]) (ints [3, 4]) (ints [5, 6]) (pcl (plL b1 b2 b3)) (ints [8, 9, 10]) (ints [11, 12]) (dcl (plM b5 b6)) (ints (wins plW)) (grs plG)
theorem paz_pl : PaZ plP := paz_of (by decide) (all3 (by decide) (by decide) (by decide))
theorem dez_pl : DeZ plD_Ch3 := dez_of (by decide) (all2 (by decide) (by decide))
section
variable {w : World} {b1 b2 b3 b4 b5 b6 b7 b8 b9 : Nat} {x1 x2 x3 x4 x5 x6 x7 x8 x9 : List Value}
theorem P9.ps (h : P9 w b1 b2 b3 b4 b5 b6 b7 b8 b9 (ints [0, 1, 2]) (ints [3, 4]) (ints [5, 6]) (pcl (plL b1 b2 b3)) x5 x6 x7 x8 x9) : PaS w (.slice (some ⟨b4, 0, none⟩) 3 3) plP := PaS.blk rfl rfl h.k4 (all3 (Rw.blk h.k1 (by decide)) (Rw.blk h.k2 (by decide)) (Rw.blk h.k3 (by decide)))
theorem P9.ds (h : P9 w b1 b2 b3 b4 b5 b6 b7 b8 b9 x1 x2 x3 x4 (ints [8, 9, 10]) (ints [11, 12]) (dcl (plM b5 b6)) x8 x9) : DeS w (.slice (some ⟨b7, 0, none⟩) 2 2) plD_Ch3 := DeS.blk rfl rfl h.k7 (all2 (Rw.blk h.k5 (by decide)) (Rw.blk h.k6 (by decide)))
theorem P9.ws (h : P9 w b1 b2 b3 b4 b5 b6 b7 b8 b9 x1 x2 x3 x4 x5 x6 x7 (ints (wins plW)) x9) : Ws w (.slice (some ⟨b8, 0, none⟩) 3 3) 3 plW := ⟨Sl.blk0 h.k8 (by decide) rfl, rfl, by unfold maxLen; omega, plW64⟩
theorem P9.gs (h : P9 w b1 b2 b3 b4 b5 b6 b7 b8 b9 x1 x2 x3 x4 x5 x6 x7 x8 (grs plG)) : Sl w (.slice (some ⟨b9, 0, none⟩) 1 1) 1 3 (grs plG) := Sl.blk0 h.k9 (by decide) rfl
theorem Pl9.cf (h : Pl9 w b1 b2 b3 b4 b5 b6 b7 b8 b9) : CfAt w (.slice (some ⟨b4, 0, none⟩) 3 3) (.slice (some ⟨b7, 0, none⟩) 2 2) (.slice (some ⟨b8, 0, none⟩) 3 3) (.slice (some ⟨b9, 0, none⟩) 1 1) plC :=
  ⟨P9.ps h, paz_pl, P9.ds h, dez_pl, P9.ws h, by decide, some_nil, P9.gs h, by decide, some_nil⟩
end
def PlainIs (w : World) (e : Ending) (w' : World) : Prop := ∃ b1 b2 b3 b4 b5 b6 b7 b8 b9, e = .returned (.agg #[.int .i64 16, .slice (some ⟨b4, 0, none⟩) 3 3, .slice (some ⟨b7, 0, none⟩) 2 2, .int .i64 6, .slice (some ⟨b8, 0, none⟩) 3 3, .slice (some ⟨b9, 0, none⟩) 1 1, .int .i64 10, .int .i64 6, .int .i64 2]) ∧ Pl9 w' b1 b2 b3 b4 b5 b6 b7 b8 b9 ∧ w.heap.size ≤ b1 ∧ b9 < w'.heap.size ∧ Below w.heap.size w w'
end Go.Proofs.Ytkaalinoiilmoaa
