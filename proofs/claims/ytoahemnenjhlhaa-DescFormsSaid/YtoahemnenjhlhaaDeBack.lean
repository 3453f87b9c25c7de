/-
  Layer 16's law DescBack: it answers true for every input. (Written by wip/gende_back.py.)
-/
import Derived.Test.YtoahemnenjhlhaaDeAwake
import Derived.Deep.RegionHeld3
import Derived.Deep.DeepCutAuto
namespace Go.Proofs.Ytoahemnenjhlhaa
open Go.RowKit
set_option linter.unusedVariables false
set_option linter.unusedSimpArgs false
set_option maxRecDepth 100000

/-- A descriptor stands in its block, and nothing that was there has turned. -/
structure Db (w : World) (g : Nat) (o x l b n : Int) (w' : World) : Prop where
  c0 : w'.cell? ⟨g, 0, none⟩ = some (.int .i64 o)
  c1 : w'.cell? ⟨g, 1, none⟩ = some (.int .i64 x)
  c2 : w'.cell? ⟨g, 2, none⟩ = some (.int .i64 l)
  c3 : w'.cell? ⟨g, 3, none⟩ = some (.int .i64 b)
  c4 : w'.cell? ⟨g, 4, none⟩ = some (.int .i64 n)
  a : Blk w' g 23 [.int .i64 o, .int .i64 x, .int .i64 l, .int .i64 b, .int .i64 n]
  s : w.heap.size ≤ w'.heap.size
  b : Below w.heap.size w w'
theorem Db.of {w w' : World} {g : Nat} {o x l b n : Int} (a : Blk w' g 23 [.int .i64 o, .int .i64 x, .int .i64 l, .int .i64 b, .int .i64 n]) (s : w.heap.size ≤ w'.heap.size) (hb : Below w.heap.size w w') : Db w g o x l b n w' := by
  obtain ⟨c0, c1, c2, c3, c4⟩ := five_at a
  exact ⟨c0, c1, c2, c3, c4, a, s, hb⟩
theorem Db.next {w w1 w2 : World} {g : Nat} {o x l b n : Int} (h : Db w g o x l b n w1) (hb : Below w1.heap.size w1 w2) : Db w g o x l b n w2 :=
  Db.of (h.a.below hb h.a.lt) (Below.down h.b hb h.s).size (Below.down h.b hb h.s)
theorem Db.drew {w w1 : World} {g : Nat} {o x l b n : Int} (h : Db w g o x l b n w1) : Db w g o x l b n w1.drew :=
  ⟨h.c0, h.c1, h.c2, h.c3, h.c4, h.a, h.s, bdrewN h.b 1⟩
theorem Db.alloc {w w1 : World} {g : Nat} {o x l b n : Int} (h : Db w g o x l b n w1) (O : Obj) : Db w g o x l b n (w1.alloc O) :=
  Db.of (h.a.alloc O) (Nat.le_trans h.s (by simp)) (h.b.alloc h.s O)
theorem Db.all {w w' : World} {g : Nat} {o x l b n : Int} (h : Db w g o x l b n w') : w'.cell? ⟨g, 0, none⟩ = some (.int .i64 o) ∧ w'.cell? ⟨g, 1, none⟩ = some (.int .i64 x) ∧ w'.cell? ⟨g, 2, none⟩ = some (.int .i64 l) ∧ w'.cell? ⟨g, 3, none⟩ = some (.int .i64 b) ∧
    w'.cell? ⟨g, 4, none⟩ = some (.int .i64 n) ∧ Db w g o x l b n w' := ⟨h.c0, h.c1, h.c2, h.c3, h.c4, h⟩

theorem dg_known {t : List UInt8} (h : dgB t = true) : ∃ o x l b n : Int, degV t = .tuple #[.agg #[.int .i64 o, .int .i64 x, .int .i64 l, .int .i64 b, .int .i64 n], .int .i64 0] ∧ str (deL o x l b n) = str t ∧ deB o x l b n = true := by
  obtain ⟨_, hd, hr⟩ := dg_back h
  refine ⟨gO t, gX t, gL t, gBu t, gN t, ?_, ?_, hd⟩
  · unfold degV; rw [h]; rfl
  · rw [deL_yes hd, hr]
theorem de_known {o x l b n : Int} (h : deB o x l b n = true) : degV (str (deL o x l b n)).data.toList = .tuple #[.agg #[.int .i64 o, .int .i64 x, .int .i64 l, .int .i64 b, .int .i64 n], .int .i64 0] := by
  obtain ⟨h0, h1, h2, h3, h4, h5⟩ := de_back h
  rw [str_list, deL_yes h]
  unfold degV
  rw [h0, h1, h2, h3, h4, h5]
  rfl

set_option maxHeartbeats 4000000 in
theorem law_DescBack (o x l b n : Int) (s : ByteArray) (w : World) :
    Calls Try.prog 4 #[.agg #[.int .i64 o, .int .i64 x, .int .i64 l, .int .i64 b, .int .i64 n], .string s] w fun e w' => e = .returned (.bool true) ∧ Below w.heap.size w w' := by
  have t0 := Blk.new w 23 [.int .i64 o, .int .i64 x, .int .i64 l, .int .i64 b, .int .i64 n]
  have z0 : Below w.heap.size w (w.alloc (.cells #[.int .i64 o, .int .i64 x, .int .i64 l, .int .i64 b, .int .i64 n] 23)) := (Below.refl _ _).alloc (Nat.le_refl _) _
  have HG : Hid ((dgB s.data.toList = false ∧ degV s.data.toList = .tuple #[.agg #[.int .i64 0, .int .i64 0, .int .i64 0, .int .i64 0, .int .i64 0], .int .i64 1600]) ∨ (∃ o3 x3 l3 b3 n3 : Int, degV s.data.toList = .tuple #[.agg #[.int .i64 o3, .int .i64 x3, .int .i64 l3, .int .i64 b3, .int .i64 n3], .int .i64 0] ∧ str (deL o3 x3 l3 b3 n3) = s ∧ deB o3 x3 l3 b3 n3 = true)) := Lib.hid (by
    cases h : dgB s.data.toList with
    | false => exact .inl ⟨rfl, degV_no h⟩
    | true =>
      have h2 := dg_known h
      rw [str_of] at h2
      exact .inr h2)
  go_enter Try.func4, Try.ntmps4
  go_wp2_with fail
  generalize w.alloc (.cells #[.int .i64 o, .int .i64 x, .int .i64 l, .int .i64 b, .int .i64 n] 23) = w0 at *
  refine (deawake_any _).mono ?_
  rintro e w1 ⟨rfl, b1⟩
  have h0 : Db w w.heap.size o x l b n w0 := Db.of t0 z0.size z0
  have h1 := h0.next b1
  clear t0 z0 b1 h0
  generalize hga : w.heap.size = ga at h1
  simp only [hga]
  have hgl : w.heap.size ≤ ga := by omega
  have HGA := Lib.hid hga
  clear hga
  obtain ⟨a0, a1, a2, a3, a4, h1⟩ := h1.all
  have H1 := Lib.hid h1
  clear h1
  go_wp2_with fail
  cases hB : deB o x l b n with
  | true =>
    have HB := Lib.hid hB
    obtain ⟨Sa, hSa⟩ : ∃ Sa, str (deL o x l b n) = Sa := ⟨_, rfl⟩
    have hz : (Sa.size : Int) = 8 := by rw [← hSa, str_size, deL_yes hB]; rfl
    have HD := Lib.hid (de_known hB)
    rw [hSa] at HD
    have HSa := Lib.hid hSa
    clear hSa hB
    refine (deput_is o x l b n 0 Sa _ HSa.out (by rw [HB.out]; rfl)).mono ?_
    rintro e w2 ⟨rfl, b2⟩
    have h2 := H1.out.next b2
    clear b2 a0 a1 a2 a3 a4 H1
    obtain ⟨a0, a1, a2, a3, a4, h2⟩ := h2.all
    go_wp2_with fail
    go_region_held3 (fun w' => w'.cell? ⟨ga, 0, none⟩ = some (.int .i64 o) ∧ w'.cell? ⟨ga, 1, none⟩ = some (.int .i64 x) ∧ w'.cell? ⟨ga, 2, none⟩ = some (.int .i64 l) ∧ w'.cell? ⟨ga, 3, none⟩ = some (.int .i64 b) ∧ w'.cell? ⟨ga, 4, none⟩ = some (.int .i64 n) ∧ Db w ga o x l b n w')
      ((go_split_ands; refine Db.all ?_; (first | assumption | (exact Db.drew (by assumption)) | (refine Db.next ?_ (by assumption); assumption))))
      (first
        | (go_at_call 11; refine (num_any _ _).mono ?_; rintro e w' ⟨rfl, rfl⟩)
        | (go_at_call 12; refine (demay_is o x l b n true _ HB.out).mono ?_; rintro e w' ⟨rfl, hb⟩))
    all_goals
      have hEnd : Db w ga o x l b n w' := by go_split_ands; assumption
      have HE := Lib.hid hEnd
      clear hEnd
      go_wp2_with fail
      refine (num_any _ _).mono ?_; rintro e w4 ⟨rfl, rfl⟩
      go_wp2_with fail
      refine (deget_is Sa _ _ HD.out).mono ?_
      rintro e w4 ⟨rfl, b4⟩
      have h4 := (HE.out.next b4).alloc (.cells #[.int .i64 o, .int .i64 x, .int .i64 l, .int .i64 b, .int .i64 n] 23)
      have u4 := Blk.new w4 23 [.int .i64 o, .int .i64 x, .int .i64 l, .int .i64 b, .int .i64 n]
      obtain ⟨d0, d1, d2, d3, d4⟩ := five_at u4
      obtain ⟨e0, e1, e2, e3, e4, h4⟩ := h4.all
      have H4 := Lib.hid h4
      clear b4 u4
      go_wp2_with fail
      refine (num_any _ _).mono ?_; rintro e w' ⟨rfl, rfl⟩
      go_wp2_with fail
      rcases HG.out with ⟨hg, hV⟩ | ⟨o3, x3, l3, b3, n3, hV, hS3, hB3⟩
      · refine (deget_is s _ _ hV).mono ?_
        rintro e w6 ⟨rfl, b6⟩
        have k6 := (H4.out.next b6).alloc (.cells #[.int .i64 0, .int .i64 0, .int .i64 0, .int .i64 0, .int .i64 0] 23)
        have u6 := Blk.new w6 23 [.int .i64 0, .int .i64 0, .int .i64 0, .int .i64 0, .int .i64 0]
        clear b6 hV hg
        obtain ⟨d0, d1, d2, d3, d4⟩ := five_at u6
        have HB6 := Lib.hid k6.b
        clear u6 k6
        go_wp2_with fail
        generalize w6.alloc (.cells #[.int .i64 0, .int .i64 0, .int .i64 0, .int .i64 0, .int .i64 0] 23) = w7 at *
        refine (num_any _ _).mono ?_; rintro e w' ⟨rfl, rfl⟩
        go_wp2_with fail
        go_ret
        exact ⟨rfl, HB6.out⟩
      · refine (deget_is s _ _ hV).mono ?_
        rintro e w6 ⟨rfl, b6⟩
        have k6 := (H4.out.next b6).alloc (.cells #[.int .i64 o3, .int .i64 x3, .int .i64 l3, .int .i64 b3, .int .i64 n3] 23)
        have u6 := Blk.new w6 23 [.int .i64 o3, .int .i64 x3, .int .i64 l3, .int .i64 b3, .int .i64 n3]
        clear b6 hV
        obtain ⟨d0, d1, d2, d3, d4⟩ := five_at u6
        have K6 := Lib.hid k6
        have HS3 := Lib.hid hS3; have HB3 := Lib.hid hB3
        clear u6 k6 hS3 hB3
        go_wp2_with fail
        generalize w6.alloc (.cells #[.int .i64 o3, .int .i64 x3, .int .i64 l3, .int .i64 b3, .int .i64 n3] 23) = w7 at *
        refine (num_any _ _).mono ?_; rintro e w' ⟨rfl, rfl⟩
        go_wp2_with fail
        refine (deput_is o3 x3 l3 b3 n3 0 s _ HS3.out (by rw [HB3.out]; rfl)).mono ?_
        rintro e w8 ⟨rfl, b8⟩
        have HB8 := Lib.hid (K6.out.next b8).b
        clear b8 K6
        go_wp2_with fail
        refine (num_any _ _).mono ?_; rintro e w' ⟨rfl, rfl⟩
        go_wp2_with fail
        go_ret
        exact ⟨rfl, HB8.out⟩
  | false =>
    have HB := Lib.hid hB
    clear hB
    refine (deput_is o x l b n 1600 ⟨#[]⟩ _ (by rw [deL_no HB.out]; rfl) (by rw [HB.out]; rfl)).mono ?_
    rintro e w2 ⟨rfl, b2⟩
    have h2 := H1.out.next b2
    clear b2 a0 a1 a2 a3 a4 H1
    obtain ⟨a0, a1, a2, a3, a4, h2⟩ := h2.all
    go_wp2_with fail
    refine wp_region_held_drew (S := fun w' => w'.cell? ⟨ga, 0, none⟩ = some (.int .i64 o) ∧ w'.cell? ⟨ga, 1, none⟩ = some (.int .i64 x) ∧ w'.cell? ⟨ga, 2, none⟩ = some (.int .i64 l) ∧ w'.cell? ⟨ga, 3, none⟩ = some (.int .i64 b) ∧ w'.cell? ⟨ga, 4, none⟩ = some (.int .i64 n) ∧ Db w ga o x l b n w') (by kernel_rfl) ?_ (fun hHeld => ?_)
    · try dsimp only
      (go_split_ands; refine Db.all ?_; (first | assumption | (exact Db.drew (by assumption)) | (refine Db.next ?_ (by assumption); assumption)))
    refine wpAnyH_take (i := 0) (v := ?v0zq) rfl (by kernel_rfl) (by kernel_rfl) (by kernel_rfl) (fun _ _ _ h => h) (Or.inl ⟨by rfl, ?hy0zq⟩) (by assumption) ?rest0zq
    case hy0zq => intro w hSw; (try dsimp only at hSw); first | (go_simp; done) | (go_simp; with_reducible rfl)
    try simp only [Act.put, List.getElem_toArray, List.getElem_cons_succ, List.getElem_cons_zero, List.setIfInBounds_toArray, List.set_cons_zero, List.set_cons_succ]
    refine wpAnyH_take (i := 3) (v := ?v3zq) rfl (by kernel_rfl) (by kernel_rfl) (by kernel_rfl) (fun _ _ _ h => h) (Or.inl ⟨by rfl, ?hy3zq⟩) (by assumption) ?rest3zq
    case hy3zq => intro w hSw; (try dsimp only at hSw); first | (go_simp; done) | (go_simp; with_reducible rfl)
    try simp only [Act.put, List.getElem_toArray, List.getElem_cons_succ, List.getElem_cons_zero, List.setIfInBounds_toArray, List.set_cons_zero, List.set_cons_succ]
    refine wpAnyH_ready (rs := [1]) (by kernel_rfl) (by simp) ?_
    refine AllReadyH.cons rfl (fun K hK => ?_) AllReadyH.nil
    go_simp
    refine (num_any _ _).mono ?_; rintro e w' ⟨rfl, rfl⟩
    go_wp2_with fail
    refine hK.out _ _ ?_ (fun hHeld2 => ?_)
    · try dsimp only
      (go_split_ands; refine Db.all ?_; (first | assumption | (exact Db.drew (by assumption)) | (refine Db.next ?_ (by assumption); assumption)))
    clear hK K hHeld
    have hHeld := hHeld2; clear hHeld2
    try simp only [Act.put, List.getElem_toArray, List.getElem_cons_succ, List.getElem_cons_zero, List.setIfInBounds_toArray, List.set_cons_zero, List.set_cons_succ]
    refine wpAnyH_take (i := 2) (v := ?v2zq) rfl (by kernel_rfl) (by kernel_rfl) (by kernel_rfl) (fun _ _ _ h => h) (Or.inl ⟨by rfl, ?hy2zq⟩) (by assumption) ?rest2zq
    case hy2zq => intro w hSw; (try dsimp only at hSw); first | (go_simp; done) | (go_simp; with_reducible rfl)
    try simp only [Act.put, List.getElem_toArray, List.getElem_cons_succ, List.getElem_cons_zero, List.setIfInBounds_toArray, List.set_cons_zero, List.set_cons_succ]
    refine wpAnyH_ready (rs := [4]) (by kernel_rfl) (by simp) ?_
    refine AllReadyH.cons rfl (fun K hK => ?_) AllReadyH.nil
    go_simp
    refine (demay_is o x l b n false _ HB.out).mono ?_; rintro e w' ⟨rfl, hb⟩
    go_wp2_with fail
    refine hK.out _ _ ?_ (fun hHeld2 => ?_)
    · try dsimp only
      (go_split_ands; refine Db.all ?_; (first | assumption | (exact Db.drew (by assumption)) | (refine Db.next ?_ (by assumption); assumption)))
    clear hK K hHeld
    have hHeld := hHeld2; clear hHeld2
    try simp only [Act.put, List.getElem_toArray, List.getElem_cons_succ, List.getElem_cons_zero, List.setIfInBounds_toArray, List.set_cons_zero, List.set_cons_succ]
    refine wpAnyH_take (i := 5) (v := ?v5zq) rfl (by kernel_rfl) (by kernel_rfl) (by kernel_rfl) (fun _ _ _ h => h) (Or.inl ⟨by rfl, ?hy5zq⟩) (by assumption) ?rest5zq
    case hy5zq => intro w hSw; (try dsimp only at hSw); first | (go_simp; done) | (go_simp; with_reducible rfl)
    try simp only [Act.put, List.getElem_toArray, List.getElem_cons_succ, List.getElem_cons_zero, List.setIfInBounds_toArray, List.set_cons_zero, List.set_cons_succ]
    refine wpAnyH_take (i := 6) (v := ?v6zq) rfl (by kernel_rfl) (by kernel_rfl) (by kernel_rfl) (fun _ _ _ h => h) (Or.inl ⟨by rfl, ?hy6zq⟩) (by assumption) ?rest6zq
    case hy6zq => intro w hSw; (try dsimp only at hSw); first | (go_simp; done) | (go_simp; with_reducible rfl)
    try simp only [Act.put, List.getElem_toArray, List.getElem_cons_succ, List.getElem_cons_zero, List.setIfInBounds_toArray, List.set_cons_zero, List.set_cons_succ]
    refine wpAnyH_take (i := 7) (v := ?v7zq) rfl (by kernel_rfl) (by kernel_rfl) (by kernel_rfl) (fun _ _ _ h => h) (Or.inl ⟨by rfl, ?hy7zq⟩) (by assumption) ?rest7zq
    case hy7zq => intro w hSw; (try dsimp only at hSw); first | (go_simp; done) | (go_simp; with_reducible rfl)
    try simp only [Act.put, List.getElem_toArray, List.getElem_cons_succ, List.getElem_cons_zero, List.setIfInBounds_toArray, List.set_cons_zero, List.set_cons_succ]
    refine wpAnyH_ready (rs := [8]) (by kernel_rfl) (by simp) ?_
    refine AllReadyH.cons rfl (fun K hK => ?_) AllReadyH.nil
    go_simp
    refine (num_any _ _).mono ?_; rintro e w' ⟨rfl, rfl⟩
    go_wp2_with fail
    refine hK.out _ _ ?_ (fun hHeld2 => ?_)
    · try dsimp only
      (go_split_ands; refine Db.all ?_; (first | assumption | (exact Db.drew (by assumption)) | (refine Db.next ?_ (by assumption); assumption)))
    clear hK K hHeld
    have hHeld := hHeld2; clear hHeld2
    try simp only [Act.put, List.getElem_toArray, List.getElem_cons_succ, List.getElem_cons_zero, List.setIfInBounds_toArray, List.set_cons_zero, List.set_cons_succ]
    refine wpAnyH_take (i := 9) (v := ?v9zq) rfl (by kernel_rfl) (by kernel_rfl) (by kernel_rfl) (fun _ _ _ h => h) (Or.inl ⟨by rfl, ?hy9zq⟩) (by assumption) ?rest9zq
    case hy9zq => intro w hSw; (try dsimp only at hSw); first | (go_simp; done) | (go_simp; with_reducible rfl)
    try simp only [Act.put, List.getElem_toArray, List.getElem_cons_succ, List.getElem_cons_zero, List.setIfInBounds_toArray, List.set_cons_zero, List.set_cons_succ]
    refine wpAnyH_take (i := 10) (v := ?v10zq) rfl (by kernel_rfl) (by kernel_rfl) (by kernel_rfl) (fun _ _ _ h => h) (Or.inl ⟨by rfl, ?hy10zq⟩) (by assumption) ?rest10zq
    case hy10zq => intro w hSw; (try dsimp only at hSw); first | (go_simp; done) | (go_simp; with_reducible rfl)
    try simp only [Act.put, List.getElem_toArray, List.getElem_cons_succ, List.getElem_cons_zero, List.setIfInBounds_toArray, List.set_cons_zero, List.set_cons_succ]
    refine wpAnyH_take (i := 11) (v := undef) rfl (by kernel_rfl) (by kernel_rfl) (by kernel_rfl) (fun _ _ _ h => h) (Or.inr ⟨by rfl, rfl⟩) (by assumption) ?rest11zq
    try simp only [Act.put, List.getElem_toArray, List.getElem_cons_succ, List.getElem_cons_zero, List.setIfInBounds_toArray, List.set_cons_zero, List.set_cons_succ]
    refine wpAnyH_take (i := 12) (v := undef) rfl (by kernel_rfl) (by kernel_rfl) (by kernel_rfl) (fun _ _ _ h => h) (Or.inr ⟨by rfl, rfl⟩) (by assumption) ?rest12zq
    try simp only [Act.put, List.getElem_toArray, List.getElem_cons_succ, List.getElem_cons_zero, List.setIfInBounds_toArray, List.set_cons_zero, List.set_cons_succ]
    refine wpAnyH_take (i := 13) (v := undef) rfl (by kernel_rfl) (by kernel_rfl) (by kernel_rfl) (fun _ _ _ h => h) (Or.inr ⟨by rfl, rfl⟩) (by assumption) ?rest13zq
    try simp only [Act.put, List.getElem_toArray, List.getElem_cons_succ, List.getElem_cons_zero, List.setIfInBounds_toArray, List.set_cons_zero, List.set_cons_succ]
    refine wpAnyH_take (i := 14) (v := ?v14zq) rfl (by kernel_rfl) (by kernel_rfl) (by kernel_rfl) (fun _ _ _ h => h) (Or.inl ⟨by rfl, ?hy14zq⟩) (by assumption) ?rest14zq
    case hy14zq => intro w hSw; (try dsimp only at hSw); first | (go_simp; done) | (go_simp; with_reducible rfl)
    try simp only [Act.put, List.getElem_toArray, List.getElem_cons_succ, List.getElem_cons_zero, List.setIfInBounds_toArray, List.set_cons_zero, List.set_cons_succ]
    refine wpAnyH_take (i := 15) (v := ?v15zq) rfl (by kernel_rfl) (by kernel_rfl) (by kernel_rfl) (fun _ _ _ h => h) (Or.inl ⟨by rfl, ?hy15zq⟩) (by assumption) ?rest15zq
    case hy15zq => intro w hSw; (try dsimp only at hSw); first | (go_simp; done) | (go_simp; with_reducible rfl)
    try simp only [Act.put, List.getElem_toArray, List.getElem_cons_succ, List.getElem_cons_zero, List.setIfInBounds_toArray, List.set_cons_zero, List.set_cons_succ]
    refine wpAnyH_done (by kernel_rfl) ?_ _
    all_goals
      have hEnd : Db w ga o x l b n w' := by go_split_ands; assumption
      have HE := Lib.hid hEnd
      clear hEnd
      go_wp2_with fail
      refine (num_any _ _).mono ?_; rintro e w4 ⟨rfl, rfl⟩
      go_wp2_with fail
      rcases HG.out with ⟨hg, hV⟩ | ⟨o3, x3, l3, b3, n3, hV, hS3, hB3⟩
      · refine (deget_is s _ _ hV).mono ?_
        rintro e w6 ⟨rfl, b6⟩
        have k6 := (HE.out.next b6).alloc (.cells #[.int .i64 0, .int .i64 0, .int .i64 0, .int .i64 0, .int .i64 0] 23)
        have u6 := Blk.new w6 23 [.int .i64 0, .int .i64 0, .int .i64 0, .int .i64 0, .int .i64 0]
        clear b6 hV hg
        obtain ⟨d0, d1, d2, d3, d4⟩ := five_at u6
        have HB6 := Lib.hid k6.b
        clear u6 k6
        go_wp2_with fail
        generalize w6.alloc (.cells #[.int .i64 0, .int .i64 0, .int .i64 0, .int .i64 0, .int .i64 0] 23) = w7 at *
        refine (num_any _ _).mono ?_; rintro e w' ⟨rfl, rfl⟩
        go_wp2_with fail
        go_ret
        exact ⟨rfl, HB6.out⟩
      · refine (deget_is s _ _ hV).mono ?_
        rintro e w6 ⟨rfl, b6⟩
        have k6 := (HE.out.next b6).alloc (.cells #[.int .i64 o3, .int .i64 x3, .int .i64 l3, .int .i64 b3, .int .i64 n3] 23)
        have u6 := Blk.new w6 23 [.int .i64 o3, .int .i64 x3, .int .i64 l3, .int .i64 b3, .int .i64 n3]
        clear b6 hV
        obtain ⟨d0, d1, d2, d3, d4⟩ := five_at u6
        have K6 := Lib.hid k6
        have HS3 := Lib.hid hS3; have HB3 := Lib.hid hB3
        clear u6 k6 hS3 hB3
        go_wp2_with fail
        generalize w6.alloc (.cells #[.int .i64 o3, .int .i64 x3, .int .i64 l3, .int .i64 b3, .int .i64 n3] 23) = w7 at *
        refine (num_any _ _).mono ?_; rintro e w' ⟨rfl, rfl⟩
        go_wp2_with fail
        refine (deput_is o3 x3 l3 b3 n3 0 s _ HS3.out (by rw [HB3.out]; rfl)).mono ?_
        rintro e w8 ⟨rfl, b8⟩
        have HB8 := Lib.hid (K6.out.next b8).b
        clear b8 K6
        go_wp2_with fail
        refine (num_any _ _).mono ?_; rintro e w' ⟨rfl, rfl⟩
        go_wp2_with fail
        go_ret
        exact ⟨rfl, HB8.out⟩

end Go.Proofs.Ytoahemnenjhlhaa
