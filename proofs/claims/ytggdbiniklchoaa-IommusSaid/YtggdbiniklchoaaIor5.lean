/-
  Contracts of the document's Iommu: Map.
-/
import Derived.Test.YtggdbiniklchoaaIor4
namespace Go.Proofs.Ytggdbiniklchoaa
open Go.RowKit
set_option linter.unusedVariables false
set_option linter.unusedSimpArgs false
set_option maxRecDepth 100000

/-- While a Map is tested: the document's Iommu, the entry that came. -/
structure Em (w0 : World) (y r : Nat) (v : Value) (kb : Nat) (f m : Int) (w : World) : Prop where
  sy : Blk w y 76 [.pointer (some ⟨r, 0, none⟩), v]
  blk : Blk w kb 46 (ints [f, m])
  b : Below w0.heap.size w0 w
section
variable {w0 w w' : World} {y r kb : Nat} {v : Value} {f m : Int}
theorem Em.all (h : Em w0 y r v kb f m w) : w.cell? ⟨kb, 0, none⟩ = some (.int .i64 f) ∧ w.cell? ⟨kb, 1, none⟩ = some (.int .i64 m) ∧ w.cell? ⟨y, 0, none⟩ = some (.pointer (some ⟨r, 0, none⟩)) ∧ Em w0 y r v kb f m w := ⟨(h.blk.cell 0).trans rfl, (h.blk.cell 1).trans rfl, (h.sy.cell 0).trans rfl, h⟩
theorem Em.drew (h : Em w0 y r v kb f m w) : Em w0 y r v kb f m w.drew := ⟨h.sy.drewN 1, h.blk.drewN 1, bdrewN h.b 1⟩
theorem Em.below (h : Em w0 y r v kb f m w) (hb : Below w.heap.size w w') : Em w0 y r v kb f m w' := ⟨h.sy.below hb h.sy.lt, h.blk.below hb h.blk.lt, Below.down h.b hb h.b.size⟩
end

theorem rfresh_rx {B : Nat} {y r b : Nat} {v : Value} {ps : List (List Int)} {l : List UInt8} (FR : Int) (d : Int) (w : World) (h : Rx B w y r b v ps l) (h0 : 0 ≤ d) (h1 : d < ps.length) (hF : freshI l (ioPool ps d) = FR) :
    Calls Try.prog 53 #[.pointer (some ⟨y, 0, none⟩), .int .i64 d] w fun e w' => e = .returned (.int .i64 FR) ∧ Below w.heap.size w w' := by
  subst hF
  exact rfresh_any d w h h0 h1

section
variable {B : Nat} {y r b : Nat} {v : Value} {ps : List (List Int)} {l : List UInt8}
set_option maxHeartbeats 8000000 in
theorem rmap_any (d p f m : Int) (w : World) (h : Rx B w y r b v ps l) :
    Calls Try.prog 31 #[.pointer (some ⟨y, 0, none⟩), .int .i64 d, .int .i64 p, .agg #[.int .i64 f, .int .i64 m]] w (RmP B y r b v ps (ioMapL ps l d p f m) w (ioMapC ps l d p f m)) := by
  obtain ⟨M, hm⟩ : ∃ M : Nat, l.length = 64 * M := ⟨l.length / 64, by have := h.rm.2.1.2; omega⟩
  have hM64 : M ≤ 64 := by have := h.rm.1; omega
  have hf : frs l = M := by unfold frs; omega
  have hB : ioMapB ps l d p f m = (thB ps.length d p && decide (1 ≤ m ∧ m ≤ 3 ∧ 0 ≤ f ∧ f < 64 ∧ f < frs l)) := rfl
  rw [hf] at hB
  have b0 := (Below.refl w.heap.size w).alloc (Nat.le_refl _) (.cells #[.int .i64 f, .int .i64 m] 46)
  have hx1 := h.below b0 (Nat.le_refl _)
  have hem : Em w y r v w.heap.size f m (w.alloc (.cells #[.int .i64 f, .int .i64 m] 46)) := ⟨hx1.sx, Blk.new w _ (ints [f, m]), b0⟩
  generalize hw1 : w.alloc (.cells #[.int .i64 f, .int .i64 m] 46) = w1 at *
  have HW1 := Lib.hid hw1; clear hw1
  have hxd : Rx B w1.drew y r b v ps l := hx1.drewN 1
  have g1 : w.grownBy w1.drew (some b) := gdrewN (gof b0 _) 1
  generalize hkb : w.heap.size = kb at hem
  have HKB := Lib.hid hkb; clear hkb
  have HTH := Lib.hid (there_any d p w1.drew hxd)
  have HXD := Lib.hid hxd
  have HM := Lib.hid hm
  obtain ⟨q0, q1, q2, hem⟩ := hem.all
  have hthd : thB ps.length d p = true → 0 ≤ d ∧ d < ps.length ∧ 0 ≤ p ∧ p < 256 := by unfold thB; simp only [decide_eq_true_eq]; exact id
  cases hth : thB ps.length d p with
  | false =>
    have HB : ioMapB ps l d p f m = false := by rw [hB, hth]; rfl
    have hkp := HTH.out
    rw [hth] at hkp
    have HTk : Hid (∀ k, Calls Try.prog 50 #[.pointer (some ⟨y, 0, none⟩), .int .i64 d, .int .i64 p] (w1.drewN k) fun e w' => e = .returned (.bool false) ∧ w1.drewN k = w') := Lib.hid fun k => by
      have := there_any d p (w1.drewN k) (hx1.drewN k)
      rw [hth] at this
      exact this
    have HX1 := Lib.hid hx1
    have HB0 := Lib.hid b0
    have hn := map_no ps l d p f m HB
    rw [hn.1, hn.2]
    clear hn HB
    clear HTH hkp hB hth hthd h hf hm hx1 hxd b0 q0 q1 q2 hem
    go_enter Try.func31, Try.ntmps31
    go_wp2_with fail
    rw [HW1.out, HKB.out]
    go_quiet ((go_at_call 50; first | exact quiet_at HTk.out | exact quiet_at_a HTk.out))
    go_wp2_with fail
    go_ret
    exact ⟨rfl, HX1.out.drewN nq, gdrewN (gof HB0.out _) nq⟩
  | true =>
    obtain ⟨h0, h1, hp0, hp1⟩ := hthd hth
    have hkp := HTH.out
    rw [hth] at hkp
    have HTc := Lib.hid hkp
    cases hE : eB f m with
    | false =>
      have HB : ioMapB ps l d p f m = false := by
        rw [hB, hth, Bool.true_and, decide_eq_false_iff_not]
        unfold eB at hE
        simp only [decide_eq_false_iff_not] at hE
        omega
      have HE := Lib.hid hE
      have hn := map_no ps l d p f m HB
      rw [hn.1, hn.2]
      clear hn HB
      clear HTH hkp hB hth hthd h hf hm hx1 hxd b0 hE
      go_enter Try.func31, Try.ntmps31
      go_upto_region 1 with fail
      rw [HW1.out, HKB.out]
      refine wp_region_any (by kernel_rfl) ?_
      change wpAny _ _ _ _ _ _ _ (World.drew _)
      refine wpAny_take (i := 0) (v := ?v0qm) rfl (by kernel_rfl) (by kernel_rfl) (by kernel_rfl) (fun _ _ _ h => h) (Or.inl ⟨by rfl, ?hy0qm⟩) ?rest0qm
      case hy0qm => intro w; first | (go_simp; done) | (go_simp; with_reducible rfl)
      try simp only [Act.put, List.getElem_toArray, List.getElem_cons_succ, List.getElem_cons_zero, List.setIfInBounds_toArray, List.set_cons_zero, List.set_cons_succ]
      refine wpAny_take (i := 1) (v := ?v1qm) rfl (by kernel_rfl) (by kernel_rfl) (by kernel_rfl) (fun _ _ _ h => h) (Or.inl ⟨by rfl, ?hy1qm⟩) ?rest1qm
      case hy1qm => intro w; first | (go_simp; done) | (go_simp; with_reducible rfl)
      try simp only [Act.put, List.getElem_toArray, List.getElem_cons_succ, List.getElem_cons_zero, List.setIfInBounds_toArray, List.set_cons_zero, List.set_cons_succ]
      refine wpAny_take (i := 2) (v := ?v2qm) rfl (by kernel_rfl) (by kernel_rfl) (by kernel_rfl) (fun _ _ _ h => h) (Or.inl ⟨by rfl, ?hy2qm⟩) ?rest2qm
      case hy2qm => intro w; first | (go_simp; done) | (go_simp; with_reducible rfl)
      try simp only [Act.put, List.getElem_toArray, List.getElem_cons_succ, List.getElem_cons_zero, List.setIfInBounds_toArray, List.set_cons_zero, List.set_cons_succ]
      refine wpAny_ready (rs := [3]) (by kernel_rfl) (by simp) ?_
      refine AllReady.cons rfl (fun K hK => ?_) AllReady.nil
      go_simp
      refine HTc.out.mono ?_
      rintro e w' ⟨rfl, rfl⟩
      go_wp2_with fail
      try simp only [Act.put, List.getElem_toArray, List.getElem_cons_succ, List.getElem_cons_zero, List.setIfInBounds_toArray, List.set_cons_zero, List.set_cons_succ]
      refine wpAny_take (i := 4) (v := ?v4qm) rfl (by kernel_rfl) (by kernel_rfl) (by kernel_rfl) (fun _ _ _ h => h) (Or.inl ⟨by rfl, ?hy4qm⟩) ?rest4qm
      case hy4qm => intro w; first | (go_simp; done) | (go_simp; with_reducible rfl)
      try simp only [Act.put, List.getElem_toArray, List.getElem_cons_succ, List.getElem_cons_zero, List.setIfInBounds_toArray, List.set_cons_zero, List.set_cons_succ]
      refine wpAny_take (i := 5) (v := ?v5qm) rfl (by kernel_rfl) (by kernel_rfl) (by kernel_rfl) (fun _ _ _ h => h) (Or.inl ⟨by rfl, ?hy5qm⟩) ?rest5qm
      case hy5qm => intro w; first | (go_simp; done) | (go_simp; with_reducible rfl)
      try simp only [Act.put, List.getElem_toArray, List.getElem_cons_succ, List.getElem_cons_zero, List.setIfInBounds_toArray, List.set_cons_zero, List.set_cons_succ]
      refine wpAny_ready (rs := [6]) (by kernel_rfl) (by simp) ?_
      refine AllReady.cons rfl (fun K hK => ?_) AllReady.nil
      go_simp
      first | (refine hK _ _ ?_; clear hK K) | (go_wp2_with fail)
      try simp only [Act.put, List.getElem_toArray, List.getElem_cons_succ, List.getElem_cons_zero, List.setIfInBounds_toArray, List.set_cons_zero, List.set_cons_succ]
      refine wpAny_ready (rs := [7]) (by kernel_rfl) (by simp) ?_
      refine AllReady.cons rfl (fun K hK => ?_) AllReady.nil
      go_simp
      refine (remay_any f m _).mono ?_
      rintro e w5 ⟨rfl, b5⟩
      rw [HE.out]
      have hx5 := HXD.out.below b5 (Nat.le_refl _)
      obtain ⟨p0, p1, p2, _⟩ := (hem.drew.below b5).all
      go_wp2_with fail
      try simp only [Act.put, List.getElem_toArray, List.getElem_cons_succ, List.getElem_cons_zero, List.setIfInBounds_toArray, List.set_cons_zero, List.set_cons_succ]
      refine wpAny_take (i := 8) (v := ?v8qm) rfl (by kernel_rfl) (by kernel_rfl) (by kernel_rfl) (fun _ _ _ h => h) (Or.inl ⟨by rfl, ?hy8qm⟩) ?rest8qm
      case hy8qm => intro w; first | (go_simp; done) | (go_simp; with_reducible rfl)
      try simp only [Act.put, List.getElem_toArray, List.getElem_cons_succ, List.getElem_cons_zero, List.setIfInBounds_toArray, List.set_cons_zero, List.set_cons_succ]
      refine wpAny_take (i := 9) (v := ?v9qm) rfl (by kernel_rfl) (by kernel_rfl) (by kernel_rfl) (fun _ _ _ h => h) (Or.inl ⟨by rfl, ?hy9qm⟩) ?rest9qm
      case hy9qm => intro w; first | (go_simp; done) | (go_simp; with_reducible rfl)
      try simp only [Act.put, List.getElem_toArray, List.getElem_cons_succ, List.getElem_cons_zero, List.setIfInBounds_toArray, List.set_cons_zero, List.set_cons_succ]
      refine wpAny_take (i := 10) (v := ?v10qm) rfl (by kernel_rfl) (by kernel_rfl) (by kernel_rfl) (fun _ _ _ h => h) (Or.inl ⟨by rfl, ?hy10qm⟩) ?rest10qm
      case hy10qm => intro w; first | (go_simp; done) | (go_simp; with_reducible rfl)
      try simp only [Act.put, List.getElem_toArray, List.getElem_cons_succ, List.getElem_cons_zero, List.setIfInBounds_toArray, List.set_cons_zero, List.set_cons_succ]
      refine wpAny_take (i := 11) (v := undef) rfl (by kernel_rfl) (by kernel_rfl) (by kernel_rfl) (fun _ _ _ h => h) (Or.inr ⟨by rfl, rfl⟩) ?rest11qm
      try simp only [Act.put, List.getElem_toArray, List.getElem_cons_succ, List.getElem_cons_zero, List.setIfInBounds_toArray, List.set_cons_zero, List.set_cons_succ]
      refine wpAny_take (i := 12) (v := undef) rfl (by kernel_rfl) (by kernel_rfl) (by kernel_rfl) (fun _ _ _ h => h) (Or.inr ⟨by rfl, rfl⟩) ?rest12qm
      try simp only [Act.put, List.getElem_toArray, List.getElem_cons_succ, List.getElem_cons_zero, List.setIfInBounds_toArray, List.set_cons_zero, List.set_cons_succ]
      refine wpAny_take (i := 13) (v := undef) rfl (by kernel_rfl) (by kernel_rfl) (by kernel_rfl) (fun _ _ _ h => h) (Or.inr ⟨by rfl, rfl⟩) ?rest13qm
      try simp only [Act.put, List.getElem_toArray, List.getElem_cons_succ, List.getElem_cons_zero, List.setIfInBounds_toArray, List.set_cons_zero, List.set_cons_succ]
      refine wpAny_take (i := 14) (v := ?v14qm) rfl (by kernel_rfl) (by kernel_rfl) (by kernel_rfl) (fun _ _ _ h => h) (Or.inl ⟨by rfl, ?hy14qm⟩) ?rest14qm
      case hy14qm => intro w; first | (go_simp; done) | (go_simp; with_reducible rfl)
      try simp only [Act.put, List.getElem_toArray, List.getElem_cons_succ, List.getElem_cons_zero, List.setIfInBounds_toArray, List.set_cons_zero, List.set_cons_succ]
      refine wpAny_take (i := 15) (v := ?v15qm) rfl (by kernel_rfl) (by kernel_rfl) (by kernel_rfl) (fun _ _ _ h => h) (Or.inl ⟨by rfl, ?hy15qm⟩) ?rest15qm
      case hy15qm => intro w; first | (go_simp; done) | (go_simp; with_reducible rfl)
      try simp only [Act.put, List.getElem_toArray, List.getElem_cons_succ, List.getElem_cons_zero, List.setIfInBounds_toArray, List.set_cons_zero, List.set_cons_succ]
      refine wpAny_take (i := 16) (v := undef) rfl (by kernel_rfl) (by kernel_rfl) (by kernel_rfl) (fun _ _ _ h => h) (Or.inr ⟨by rfl, rfl⟩) ?rest16qm
      try simp only [Act.put, List.getElem_toArray, List.getElem_cons_succ, List.getElem_cons_zero, List.setIfInBounds_toArray, List.set_cons_zero, List.set_cons_succ]
      refine wpAny_take (i := 17) (v := undef) rfl (by kernel_rfl) (by kernel_rfl) (by kernel_rfl) (fun _ _ _ h => h) (Or.inr ⟨by rfl, rfl⟩) ?rest17qm
      try simp only [Act.put, List.getElem_toArray, List.getElem_cons_succ, List.getElem_cons_zero, List.setIfInBounds_toArray, List.set_cons_zero, List.set_cons_succ]
      refine wpAny_take (i := 18) (v := undef) rfl (by kernel_rfl) (by kernel_rfl) (by kernel_rfl) (fun _ _ _ h => h) (Or.inr ⟨by rfl, rfl⟩) ?rest18qm
      try simp only [Act.put, List.getElem_toArray, List.getElem_cons_succ, List.getElem_cons_zero, List.setIfInBounds_toArray, List.set_cons_zero, List.set_cons_succ]
      refine wpAny_take (i := 19) (v := undef) rfl (by kernel_rfl) (by kernel_rfl) (by kernel_rfl) (fun _ _ _ h => h) (Or.inr ⟨by rfl, rfl⟩) ?rest19qm
      try simp only [Act.put, List.getElem_toArray, List.getElem_cons_succ, List.getElem_cons_zero, List.setIfInBounds_toArray, List.set_cons_zero, List.set_cons_succ]
      refine wpAny_take (i := 20) (v := undef) rfl (by kernel_rfl) (by kernel_rfl) (by kernel_rfl) (fun _ _ _ h => h) (Or.inr ⟨by rfl, rfl⟩) ?rest20qm
      try simp only [Act.put, List.getElem_toArray, List.getElem_cons_succ, List.getElem_cons_zero, List.setIfInBounds_toArray, List.set_cons_zero, List.set_cons_succ]
      refine wpAny_take (i := 21) (v := undef) rfl (by kernel_rfl) (by kernel_rfl) (by kernel_rfl) (fun _ _ _ h => h) (Or.inr ⟨by rfl, rfl⟩) ?rest21qm
      try simp only [Act.put, List.getElem_toArray, List.getElem_cons_succ, List.getElem_cons_zero, List.setIfInBounds_toArray, List.set_cons_zero, List.set_cons_succ]
      refine wpAny_take (i := 22) (v := undef) rfl (by kernel_rfl) (by kernel_rfl) (by kernel_rfl) (fun _ _ _ h => h) (Or.inr ⟨by rfl, rfl⟩) ?rest22qm
      try simp only [Act.put, List.getElem_toArray, List.getElem_cons_succ, List.getElem_cons_zero, List.setIfInBounds_toArray, List.set_cons_zero, List.set_cons_succ]
      refine wpAny_take (i := 23) (v := undef) rfl (by kernel_rfl) (by kernel_rfl) (by kernel_rfl) (fun _ _ _ h => h) (Or.inr ⟨by rfl, rfl⟩) ?rest23qm
      try simp only [Act.put, List.getElem_toArray, List.getElem_cons_succ, List.getElem_cons_zero, List.setIfInBounds_toArray, List.set_cons_zero, List.set_cons_succ]
      refine wpAny_take (i := 24) (v := ?v24qm) rfl (by kernel_rfl) (by kernel_rfl) (by kernel_rfl) (fun _ _ _ h => h) (Or.inl ⟨by rfl, ?hy24qm⟩) ?rest24qm
      case hy24qm => intro w; first | (go_simp; done) | (go_simp; with_reducible rfl)
      try simp only [Act.put, List.getElem_toArray, List.getElem_cons_succ, List.getElem_cons_zero, List.setIfInBounds_toArray, List.set_cons_zero, List.set_cons_succ]
      refine wpAny_done (by kernel_rfl) ?_ _
      go_wp2_with fail
      go_ret
      exact ⟨rfl, hx5, gtrans g1 (gof b5 _)⟩
    | true =>
      have HE := Lib.hid hE
      by_cases hm0 : m = 0
      · subst hm0
        have HB : ioMapB ps l d p f 0 = false := by rw [hB, hth, Bool.true_and, decide_eq_false_iff_not]; omega
        have hn := map_no ps l d p f 0 HB
        rw [hn.1, hn.2]
        clear hn HB
        clear HTH hkp hB hth hthd h hf hm hx1 hxd b0 hE
        go_enter Try.func31, Try.ntmps31
        go_upto_region 1 with fail
        rw [HW1.out, HKB.out]
        refine wp_region_any (by kernel_rfl) ?_
        change wpAny _ _ _ _ _ _ _ (World.drew _)
        refine wpAny_take (i := 0) (v := ?v0q0) rfl (by kernel_rfl) (by kernel_rfl) (by kernel_rfl) (fun _ _ _ h => h) (Or.inl ⟨by rfl, ?hy0q0⟩) ?rest0q0
        case hy0q0 => intro w; first | (go_simp; done) | (go_simp; with_reducible rfl)
        try simp only [Act.put, List.getElem_toArray, List.getElem_cons_succ, List.getElem_cons_zero, List.setIfInBounds_toArray, List.set_cons_zero, List.set_cons_succ]
        refine wpAny_take (i := 1) (v := ?v1q0) rfl (by kernel_rfl) (by kernel_rfl) (by kernel_rfl) (fun _ _ _ h => h) (Or.inl ⟨by rfl, ?hy1q0⟩) ?rest1q0
        case hy1q0 => intro w; first | (go_simp; done) | (go_simp; with_reducible rfl)
        try simp only [Act.put, List.getElem_toArray, List.getElem_cons_succ, List.getElem_cons_zero, List.setIfInBounds_toArray, List.set_cons_zero, List.set_cons_succ]
        refine wpAny_take (i := 2) (v := ?v2q0) rfl (by kernel_rfl) (by kernel_rfl) (by kernel_rfl) (fun _ _ _ h => h) (Or.inl ⟨by rfl, ?hy2q0⟩) ?rest2q0
        case hy2q0 => intro w; first | (go_simp; done) | (go_simp; with_reducible rfl)
        try simp only [Act.put, List.getElem_toArray, List.getElem_cons_succ, List.getElem_cons_zero, List.setIfInBounds_toArray, List.set_cons_zero, List.set_cons_succ]
        refine wpAny_ready (rs := [3]) (by kernel_rfl) (by simp) ?_
        refine AllReady.cons rfl (fun K hK => ?_) AllReady.nil
        go_simp
        refine HTc.out.mono ?_
        rintro e w' ⟨rfl, rfl⟩
        go_wp2_with fail
        try simp only [Act.put, List.getElem_toArray, List.getElem_cons_succ, List.getElem_cons_zero, List.setIfInBounds_toArray, List.set_cons_zero, List.set_cons_succ]
        refine wpAny_take (i := 4) (v := ?v4q0) rfl (by kernel_rfl) (by kernel_rfl) (by kernel_rfl) (fun _ _ _ h => h) (Or.inl ⟨by rfl, ?hy4q0⟩) ?rest4q0
        case hy4q0 => intro w; first | (go_simp; done) | (go_simp; with_reducible rfl)
        try simp only [Act.put, List.getElem_toArray, List.getElem_cons_succ, List.getElem_cons_zero, List.setIfInBounds_toArray, List.set_cons_zero, List.set_cons_succ]
        refine wpAny_take (i := 5) (v := ?v5q0) rfl (by kernel_rfl) (by kernel_rfl) (by kernel_rfl) (fun _ _ _ h => h) (Or.inl ⟨by rfl, ?hy5q0⟩) ?rest5q0
        case hy5q0 => intro w; first | (go_simp; done) | (go_simp; with_reducible rfl)
        try simp only [Act.put, List.getElem_toArray, List.getElem_cons_succ, List.getElem_cons_zero, List.setIfInBounds_toArray, List.set_cons_zero, List.set_cons_succ]
        refine wpAny_ready (rs := [6]) (by kernel_rfl) (by simp) ?_
        refine AllReady.cons rfl (fun K hK => ?_) AllReady.nil
        go_simp
        first | (refine hK _ _ ?_; clear hK K) | (go_wp2_with fail)
        try simp only [Act.put, List.getElem_toArray, List.getElem_cons_succ, List.getElem_cons_zero, List.setIfInBounds_toArray, List.set_cons_zero, List.set_cons_succ]
        refine wpAny_ready (rs := [7]) (by kernel_rfl) (by simp) ?_
        refine AllReady.cons rfl (fun K hK => ?_) AllReady.nil
        go_simp
        refine (remay_any f 0 _).mono ?_
        rintro e w5 ⟨rfl, b5⟩
        rw [HE.out]
        have hx5 := HXD.out.below b5 (Nat.le_refl _)
        obtain ⟨p0, p1, p2, _⟩ := (hem.drew.below b5).all
        go_wp2_with fail
        try simp only [Act.put, List.getElem_toArray, List.getElem_cons_succ, List.getElem_cons_zero, List.setIfInBounds_toArray, List.set_cons_zero, List.set_cons_succ]
        refine wpAny_take (i := 8) (v := ?v8q0) rfl (by kernel_rfl) (by kernel_rfl) (by kernel_rfl) (fun _ _ _ h => h) (Or.inl ⟨by rfl, ?hy8q0⟩) ?rest8q0
        case hy8q0 => intro w; first | (go_simp; done) | (go_simp; with_reducible rfl)
        try simp only [Act.put, List.getElem_toArray, List.getElem_cons_succ, List.getElem_cons_zero, List.setIfInBounds_toArray, List.set_cons_zero, List.set_cons_succ]
        refine wpAny_take (i := 9) (v := ?v9q0) rfl (by kernel_rfl) (by kernel_rfl) (by kernel_rfl) (fun _ _ _ h => h) (Or.inl ⟨by rfl, ?hy9q0⟩) ?rest9q0
        case hy9q0 => intro w; first | (go_simp; done) | (go_simp; with_reducible rfl)
        try simp only [Act.put, List.getElem_toArray, List.getElem_cons_succ, List.getElem_cons_zero, List.setIfInBounds_toArray, List.set_cons_zero, List.set_cons_succ]
        refine wpAny_take (i := 10) (v := ?v10q0) rfl (by kernel_rfl) (by kernel_rfl) (by kernel_rfl) (fun _ _ _ h => h) (Or.inl ⟨by rfl, ?hy10q0⟩) ?rest10q0
        case hy10q0 => intro w; first | (go_simp; done) | (go_simp; with_reducible rfl)
        try simp only [Act.put, List.getElem_toArray, List.getElem_cons_succ, List.getElem_cons_zero, List.setIfInBounds_toArray, List.set_cons_zero, List.set_cons_succ]
        refine wpAny_take (i := 11) (v := ?v11q0) rfl (by kernel_rfl) (by kernel_rfl) (by kernel_rfl) (fun _ _ _ h => h) (Or.inl ⟨by rfl, ?hy11q0⟩) ?rest11q0
        case hy11q0 => intro w; first | (go_simp; done) | (go_simp; with_reducible rfl)
        try simp only [Act.put, List.getElem_toArray, List.getElem_cons_succ, List.getElem_cons_zero, List.setIfInBounds_toArray, List.set_cons_zero, List.set_cons_succ]
        refine wpAny_ready (rs := [12]) (by kernel_rfl) (by simp) ?_
        refine AllReady.cons rfl (fun K hK => ?_) AllReady.nil
        go_simp
        first | (refine hK _ _ ?_; clear hK K) | (go_wp2_with fail)
        try simp only [Act.put, List.getElem_toArray, List.getElem_cons_succ, List.getElem_cons_zero, List.setIfInBounds_toArray, List.set_cons_zero, List.set_cons_succ]
        refine wpAny_take (i := 13) (v := ?v13q0) rfl (by kernel_rfl) (by kernel_rfl) (by kernel_rfl) (fun _ _ _ h => h) (Or.inl ⟨by rfl, ?hy13q0⟩) ?rest13q0
        case hy13q0 => intro w; first | (go_simp; done) | (go_simp; with_reducible rfl)
        try simp only [Act.put, List.getElem_toArray, List.getElem_cons_succ, List.getElem_cons_zero, List.setIfInBounds_toArray, List.set_cons_zero, List.set_cons_succ]
        refine wpAny_take (i := 14) (v := ?v14q0) rfl (by kernel_rfl) (by kernel_rfl) (by kernel_rfl) (fun _ _ _ h => h) (Or.inl ⟨by rfl, ?hy14q0⟩) ?rest14q0
        case hy14q0 => intro w; first | (go_simp; done) | (go_simp; with_reducible rfl)
        try simp only [Act.put, List.getElem_toArray, List.getElem_cons_succ, List.getElem_cons_zero, List.setIfInBounds_toArray, List.set_cons_zero, List.set_cons_succ]
        refine wpAny_take (i := 15) (v := ?v15q0) rfl (by kernel_rfl) (by kernel_rfl) (by kernel_rfl) (fun _ _ _ h => h) (Or.inl ⟨by rfl, ?hy15q0⟩) ?rest15q0
        case hy15q0 => intro w; first | (go_simp; done) | (go_simp; with_reducible rfl)
        try simp only [Act.put, List.getElem_toArray, List.getElem_cons_succ, List.getElem_cons_zero, List.setIfInBounds_toArray, List.set_cons_zero, List.set_cons_succ]
        refine wpAny_take (i := 16) (v := undef) rfl (by kernel_rfl) (by kernel_rfl) (by kernel_rfl) (fun _ _ _ h => h) (Or.inr ⟨by rfl, rfl⟩) ?rest16q0
        try simp only [Act.put, List.getElem_toArray, List.getElem_cons_succ, List.getElem_cons_zero, List.setIfInBounds_toArray, List.set_cons_zero, List.set_cons_succ]
        refine wpAny_take (i := 17) (v := undef) rfl (by kernel_rfl) (by kernel_rfl) (by kernel_rfl) (fun _ _ _ h => h) (Or.inr ⟨by rfl, rfl⟩) ?rest17q0
        try simp only [Act.put, List.getElem_toArray, List.getElem_cons_succ, List.getElem_cons_zero, List.setIfInBounds_toArray, List.set_cons_zero, List.set_cons_succ]
        refine wpAny_take (i := 18) (v := undef) rfl (by kernel_rfl) (by kernel_rfl) (by kernel_rfl) (fun _ _ _ h => h) (Or.inr ⟨by rfl, rfl⟩) ?rest18q0
        try simp only [Act.put, List.getElem_toArray, List.getElem_cons_succ, List.getElem_cons_zero, List.setIfInBounds_toArray, List.set_cons_zero, List.set_cons_succ]
        refine wpAny_take (i := 19) (v := undef) rfl (by kernel_rfl) (by kernel_rfl) (by kernel_rfl) (fun _ _ _ h => h) (Or.inr ⟨by rfl, rfl⟩) ?rest19q0
        try simp only [Act.put, List.getElem_toArray, List.getElem_cons_succ, List.getElem_cons_zero, List.setIfInBounds_toArray, List.set_cons_zero, List.set_cons_succ]
        refine wpAny_take (i := 20) (v := undef) rfl (by kernel_rfl) (by kernel_rfl) (by kernel_rfl) (fun _ _ _ h => h) (Or.inr ⟨by rfl, rfl⟩) ?rest20q0
        try simp only [Act.put, List.getElem_toArray, List.getElem_cons_succ, List.getElem_cons_zero, List.setIfInBounds_toArray, List.set_cons_zero, List.set_cons_succ]
        refine wpAny_take (i := 21) (v := undef) rfl (by kernel_rfl) (by kernel_rfl) (by kernel_rfl) (fun _ _ _ h => h) (Or.inr ⟨by rfl, rfl⟩) ?rest21q0
        try simp only [Act.put, List.getElem_toArray, List.getElem_cons_succ, List.getElem_cons_zero, List.setIfInBounds_toArray, List.set_cons_zero, List.set_cons_succ]
        refine wpAny_take (i := 22) (v := undef) rfl (by kernel_rfl) (by kernel_rfl) (by kernel_rfl) (fun _ _ _ h => h) (Or.inr ⟨by rfl, rfl⟩) ?rest22q0
        try simp only [Act.put, List.getElem_toArray, List.getElem_cons_succ, List.getElem_cons_zero, List.setIfInBounds_toArray, List.set_cons_zero, List.set_cons_succ]
        refine wpAny_take (i := 23) (v := undef) rfl (by kernel_rfl) (by kernel_rfl) (by kernel_rfl) (fun _ _ _ h => h) (Or.inr ⟨by rfl, rfl⟩) ?rest23q0
        try simp only [Act.put, List.getElem_toArray, List.getElem_cons_succ, List.getElem_cons_zero, List.setIfInBounds_toArray, List.set_cons_zero, List.set_cons_succ]
        refine wpAny_take (i := 24) (v := ?v24q0) rfl (by kernel_rfl) (by kernel_rfl) (by kernel_rfl) (fun _ _ _ h => h) (Or.inl ⟨by rfl, ?hy24q0⟩) ?rest24q0
        case hy24q0 => intro w; first | (go_simp; done) | (go_simp; with_reducible rfl)
        try simp only [Act.put, List.getElem_toArray, List.getElem_cons_succ, List.getElem_cons_zero, List.setIfInBounds_toArray, List.set_cons_zero, List.set_cons_succ]
        refine wpAny_done (by kernel_rfl) ?_ _
        go_wp2_with fail
        go_ret
        exact ⟨rfl, hx5, gtrans g1 (gof b5 _)⟩
      · have hd1 : (m == 0) = false := by simpa using hm0
        by_cases hfM : f < (M : Int)
        · have hd3 : decide ((M : Int) ≤ f) = false := decide_eq_false (by omega)
          have hE' : 1 ≤ m ∧ m ≤ 3 ∧ 0 ≤ f ∧ f < 64 := by unfold eB at hE; simp only [decide_eq_true_eq] at hE; omega
          have HB : ioMapB ps l d p f m = true := by rw [hB, hth, Bool.true_and]; exact decide_eq_true (by omega)
          have hbd := eN_bounds f m hE'.2.2.1 hE'.2.2.2 hE'.1 hE'.2.1
          obtain ⟨_, hpl2, hpl5, hr0, hr1⟩ := h.pool h0 h1
          rw [hf] at hr1
          obtain ⟨R, hR⟩ : ∃ R, ioRoot ps d = R := ⟨_, rfl⟩
          obtain ⟨LF, hLF⟩ : ∃ LF, lfI l R (p / 16) = LF := ⟨_, rfl⟩
          have HR := Lib.hid hR; have HLF := Lib.hid hLF
          have n4 := h.n4; have n1 := h.n1
          obtain ⟨N, hN⟩ : ∃ N, eN f m = N := ⟨_, rfl⟩
          have HN := Lib.hid hN
          have hal := addL7_len l (ioPool ps d) p
          rw [hR] at hr0 hr1
          by_cases hL0 : LF < 0
          · have hb : lfB l (ioRoot ps d) (p / 16) = false := by unfold lfB; rw [hR, hLF]; exact decide_eq_false (by omega)
            obtain ⟨FR, hFR⟩ : ∃ FR, freshI l (ioPool ps d) = FR := ⟨_, rfl⟩
            have HFR := Lib.hid hFR
            have hl0 : decide (LF < 0) = true := decide_eq_true hL0
            by_cases hF0 : FR < 0
            · have hc : frB' l (ioPool ps d) = false := by unfold frB'; rw [hFR]; exact decide_eq_false (by omega)
              obtain ⟨q1, q2⟩ := map_full ps l d p f m HB hb hc
              rw [q1, q2]
              have hf0 : decide (FR < 0) = true := decide_eq_true hF0
              clear HTH hkp hB hth hthd h hf hm hx1 hxd b0 hE HB hb hc q1 q2 hal hR hLF hN hFR hbd
              go_enter Try.func31, Try.ntmps31
              go_wp2_with fail
              rw [HW1.out, HKB.out]
              go_region_held3 (fun w' => w'.cell? ⟨kb, 0, none⟩ = some (.int .i64 f) ∧ w'.cell? ⟨kb, 1, none⟩ = some (.int .i64 m) ∧ w'.cell? ⟨y, 0, none⟩ = some (.pointer (some ⟨r, 0, none⟩)) ∧ Em w y r v kb f m w')
                ((go_split_ands; refine Em.all ?_; (first | assumption | (exact Em.drew (by assumption)) | (exact Em.below (by assumption) (by assumption)))))
                (first
                  | (go_at_call 50; (with_reducible refine HTc.out.mono ?_); rintro e w' ⟨rfl, rfl⟩)
                  | (go_at_call 51; refine (remay_any f m _).mono ?_; rintro e w5 ⟨rfl, b5⟩; rw [HE.out]; have hx5 := HXD.out.below b5 (Nat.le_refl _))
                  | (go_at_call 28; (with_reducible refine (rframes_still r b l M HM.out _ hx5.rm).mono ?_); rintro e w' ⟨rfl, rfl⟩))
              have hS : Em w y r v kb f m w' := by go_split_ands; assumption
              have g5 := gtrans g1 (gof b5 (some b))
              go_wp2_with fail
              refine (rleaf_rx (p / 16) R LF d _ hx5 h0 h1 (by omega) (by omega) HR.out HLF.out).mono ?_
              rintro e w6 ⟨rfl, b6⟩
              have hx6 := hx5.below b6 (Nat.le_refl _)
              have g6 := gtrans g5 (gof b6 (some b))
              clear hx5 g5 b6 b5 hS
              go_wp2_with fail
              refine (rfresh_rx FR d _ hx6 h0 h1 HFR.out).mono ?_
              rintro e w7 ⟨rfl, b7⟩
              have hx7 := hx6.below b7 (Nat.le_refl _)
              have g7 := gtrans g6 (gof b7 (some b))
              clear hx6 g6 b7
              go_wp2_with fail
              go_ret
              exact ⟨rfl, hx7, g7⟩
            · have hc : frB' l (ioPool ps d) = true := by unfold frB'; rw [hFR]; exact decide_eq_true (by omega)
              obtain ⟨q1, q2⟩ := map_fr ps l d p f m HB hb hc
              have hfn : frN l (ioPool ps d) = FR := (frB_pos hc).2.trans hFR
              have hfm := h.inr _ (h.pool h0 h1).1 _ (fresh_mem l (ioPool ps d) hc)
              rw [hfn, hf] at hfm
              have hadd : addL7 l (ioPool ps d) p = pwL l (R * 64 + 4 * (p / 16)) (eN FR 3) := by
                unfold addL7
                rw [if_pos hc, hfn, Int.mul_comm 4 (p / 16), ← hR]
                rfl
              rw [hfn, hadd, Int.mul_comm (p % 16) 4, hN] at q2
              rw [q1, q2]
              obtain ⟨N3, hN3⟩ : ∃ N3, eN FR 3 = N3 := ⟨_, rfl⟩
              have HN3 := Lib.hid hN3
              rw [hN3]
              have hf0 : decide (FR < 0) = false := decide_eq_false hF0
              have hP0 := (h.pool h0 h1).2.1
              clear HTH hkp hB hth hthd h hf hm hx1 hxd b0 hE HB hb hc q1 q2 hal hLF hN hFR hbd hN3 hfn hadd
              go_enter Try.func31, Try.ntmps31
              go_wp2_with fail
              rw [HW1.out, HKB.out]
              go_region_held3 (fun w' => w'.cell? ⟨kb, 0, none⟩ = some (.int .i64 f) ∧ w'.cell? ⟨kb, 1, none⟩ = some (.int .i64 m) ∧ w'.cell? ⟨y, 0, none⟩ = some (.pointer (some ⟨r, 0, none⟩)) ∧ Em w y r v kb f m w')
                ((go_split_ands; refine Em.all ?_; (first | assumption | (exact Em.drew (by assumption)) | (exact Em.below (by assumption) (by assumption)))))
                (first
                  | (go_at_call 50; (with_reducible refine HTc.out.mono ?_); rintro e w' ⟨rfl, rfl⟩)
                  | (go_at_call 51; refine (remay_any f m _).mono ?_; rintro e w5 ⟨rfl, b5⟩; rw [HE.out]; have hx5 := HXD.out.below b5 (Nat.le_refl _))
                  | (go_at_call 28; (with_reducible refine (rframes_still r b l M HM.out _ hx5.rm).mono ?_); rintro e w' ⟨rfl, rfl⟩))
              have hS : Em w y r v kb f m w' := by go_split_ands; assumption
              have g5 := gtrans g1 (gof b5 (some b))
              go_wp2_with fail
              refine (rleaf_rx (p / 16) R LF d _ hx5 h0 h1 (by omega) (by omega) HR.out HLF.out).mono ?_
              rintro e w6 ⟨rfl, b6⟩
              have hx6 := hx5.below b6 (Nat.le_refl _)
              have hS6 := hS.below b6
              have g6 := gtrans g5 (gof b6 (some b))
              clear hx5 g5 b6 b5 hS
              go_wp2_with fail
              refine (rfresh_rx FR d _ hx6 h0 h1 HFR.out).mono ?_
              rintro e w7 ⟨rfl, b7⟩
              have hx7 := hx6.below b7 (Nat.le_refl _)
              have hS7 := hS6.below b7
              have g7 := gtrans g6 (gof b7 (some b))
              clear hx6 g6 b7 hS6
              go_wp2_with fail
              refine (reput_any FR 3 _).mono ?_
              rintro e wa ⟨rfl, ba⟩
              rw [HN3.out]
              have hxa := hx7.below ba (Nat.le_refl _)
              have hSa := hS7.below ba
              have ga := gtrans g7 (gof ba (some b))
              clear hx7 g7 ba hS7
              obtain ⟨kd, hkd⟩ := Int.eq_ofNat_of_zero_le h0
              have hkn : kd < ps.length := by omega
              have hPk : ps.getD kd [] = ioPool ps d := by unfold ioPool; rw [hkd, Int.toNat_natCast]
              obtain ⟨b0', cap', hv', _, _, hp'⟩ := hxa.pl.slice n1
              obtain ⟨qb', c', e2', _, _, hlc', e3'⟩ := hp' kd hkn (by rw [hPk]; omega)
              have e4' := e3' 0 (by rw [hPk]; omega)
              rw [hPk] at e2' e4' hlc'
              have e5' : wa.cell? ⟨qb', 0, none⟩ = some (.int .i64 R) := e4'.trans (by rw [← HR.out]; rfl)
              subst hv'
              obtain ⟨y0', y1'⟩ := hxa.cells
              subst hkd
              generalize (ioPool ps ((kd : Nat) : Int)).length = npp at *
              have i2 : (0 : Int) < (npp : Int) := by omega
              have i3 : 0 < npp := by omega
              have i4 : ¬ ((npp : Int) ≤ 0) := by omega
              have i5 : (0 : Int) ≤ 0 := by omega
              have i6 : ((0 : Nat) : Int) < (npp : Int) := by omega
              clear hp' e3' e4' hPk
              go_wp2_with fail
              go_still_tail 18, (by kernel_rfl)
              change wpList _ _ _ _ _ wa.drew
              replace hxa : Rx B wa.drew y r b _ ps l := hxa.drewN 1
              have hka := hSa.drew.blk
              replace ga : w.grownBy wa.drew (some b) := gdrewN ga 1
              clear y0' y1' e2' e5' hSa
              generalize wa.drew = wb at *
              go_wp2_with fail
              refine (rputword_any r b l _ N3 _ hxa.rm).mono ?_
              rintro e wc ⟨rfl, hmc, grc⟩
              have hxx := hxa.mem hmc (pwL_len _ _ _) grc
              have hkx := hka.grown grc (by simpa using hka.apart hxa.rm.2.2.2 (by decide))
              have gxx := gtrans ga grc
              clear hxa hka ga hmc grc
              have s0 := (hkx.cell 0).trans (show (ints [f, m])[0]? = some (.int .i64 f) from rfl)
              have s1 := (hkx.cell 1).trans (show (ints [f, m])[1]? = some (.int .i64 m) from rfl)
              go_wp2_with fail
              refine (reput_any f m _).mono ?_
              rintro e w8 ⟨rfl, b8⟩
              rw [HN.out]
              have hx8 := hxx.below b8 (Nat.le_refl _)
              have g8 := gtrans gxx (gof b8 (some b))
              obtain ⟨z0, _⟩ := hx8.cells
              clear b8 hxx gxx s0 s1 hkx
              go_wp2_with fail
              refine (rputword_any r b _ _ N _ hx8.rm).mono ?_
              rintro e w9 ⟨rfl, hm9, gr9⟩
              have hx9 := hx8.mem hm9 (pwL_len _ _ _) gr9
              have g9 := gtrans g8 gr9
              clear hx8 g8 hm9 gr9
              go_wp2_with fail
              go_ret
              exact ⟨rfl, hx9, g9⟩
          · have hb : lfB l (ioRoot ps d) (p / 16) = true := by unfold lfB; rw [hR, hLF]; exact decide_eq_true (by omega)
            obtain ⟨q1, q2⟩ := map_lf ps l d p f m HB hb
            rw [(lfB_pos hb).2, hR, hLF, Int.mul_comm (p % 16) 4, hN] at q2
            rw [q1, q2]
            have hl0 : decide (LF < 0) = false := decide_eq_false hL0
            have hLM : LF < M := by
              rcases lf_cases l R (p / 16) M hm with ⟨_, _, _, e⟩ | ⟨_, _, _, _, e⟩ | ⟨_, _, _, _, _, e⟩ | ⟨_, _, z1, _, _, _, e, _⟩
              · omega
              · omega
              · omega
              · rw [← hLF, e]; exact z1
            clear HTH hkp hB hth hthd h hf hm hx1 hxd b0 hE HB hb q1 q2 hal hR hLF hN hbd
            go_enter Try.func31, Try.ntmps31
            go_wp2_with fail
            rw [HW1.out, HKB.out]
            go_region_held3 (fun w' => w'.cell? ⟨kb, 0, none⟩ = some (.int .i64 f) ∧ w'.cell? ⟨kb, 1, none⟩ = some (.int .i64 m) ∧ w'.cell? ⟨y, 0, none⟩ = some (.pointer (some ⟨r, 0, none⟩)) ∧ Em w y r v kb f m w')
              ((go_split_ands; refine Em.all ?_; (first | assumption | (exact Em.drew (by assumption)) | (exact Em.below (by assumption) (by assumption)))))
              (first
                | (go_at_call 50; (with_reducible refine HTc.out.mono ?_); rintro e w' ⟨rfl, rfl⟩)
                | (go_at_call 51; refine (remay_any f m _).mono ?_; rintro e w5 ⟨rfl, b5⟩; rw [HE.out]; have hx5 := HXD.out.below b5 (Nat.le_refl _))
                | (go_at_call 28; (with_reducible refine (rframes_still r b l M HM.out _ hx5.rm).mono ?_); rintro e w' ⟨rfl, rfl⟩))
            have hSx : Em w y r v kb f m w' := by go_split_ands; assumption
            have g5 := gtrans g1 (gof b5 (some b))
            go_wp2_with fail
            refine (rleaf_rx (p / 16) R LF d _ hx5 h0 h1 (by omega) (by omega) HR.out HLF.out).mono ?_
            rintro e w6 ⟨rfl, b6⟩
            have hxx := hx5.below b6 (Nat.le_refl _)
            have hkx := (hSx.below b6).blk
            have gxx := gtrans g5 (gof b6 (some b))
            clear hx5 g5 b6 b5 hSx
            have s0 := (hkx.cell 0).trans (show (ints [f, m])[0]? = some (.int .i64 f) from rfl)
            have s1 := (hkx.cell 1).trans (show (ints [f, m])[1]? = some (.int .i64 m) from rfl)
            go_wp2_with fail
            refine (reput_any f m _).mono ?_
            rintro e w8 ⟨rfl, b8⟩
            rw [HN.out]
            have hx8 := hxx.below b8 (Nat.le_refl _)
            have g8 := gtrans gxx (gof b8 (some b))
            obtain ⟨z0, _⟩ := hx8.cells
            clear b8 hxx gxx s0 s1 hkx
            go_wp2_with fail
            refine (rputword_any r b _ _ N _ hx8.rm).mono ?_
            rintro e w9 ⟨rfl, hm9, gr9⟩
            have hx9 := hx8.mem hm9 (pwL_len _ _ _) gr9
            have g9 := gtrans g8 gr9
            clear hx8 g8 hm9 gr9
            go_wp2_with fail
            go_ret
            exact ⟨rfl, hx9, g9⟩
        · have hd3 : decide ((M : Int) ≤ f) = true := decide_eq_true (by omega)
          have HB : ioMapB ps l d p f m = false := by rw [hB, hth, Bool.true_and, decide_eq_false_iff_not]; omega
          have hn := map_no ps l d p f m HB
          rw [hn.1, hn.2]
          clear hn HB
          clear HTH hkp hB hth hthd h hf hm hx1 hxd b0 hE
          go_enter Try.func31, Try.ntmps31
          go_wp2_with fail
          rw [HW1.out, HKB.out]
          go_region_held3 (fun w' => w'.cell? ⟨kb, 0, none⟩ = some (.int .i64 f) ∧ w'.cell? ⟨kb, 1, none⟩ = some (.int .i64 m) ∧ w'.cell? ⟨y, 0, none⟩ = some (.pointer (some ⟨r, 0, none⟩)) ∧ Em w y r v kb f m w')
            ((go_split_ands; refine Em.all ?_; (first | assumption | (exact Em.drew (by assumption)) | (exact Em.below (by assumption) (by assumption)))))
            (first
              | (go_at_call 50; (with_reducible refine HTc.out.mono ?_); rintro e w' ⟨rfl, rfl⟩)
              | (go_at_call 51; refine (remay_any f m _).mono ?_; rintro e w5 ⟨rfl, b5⟩; rw [HE.out]; have hx5 := HXD.out.below b5 (Nat.le_refl _))
              | (go_at_call 28; (with_reducible refine (rframes_still r b l M HM.out _ hx5.rm).mono ?_); rintro e w' ⟨rfl, rfl⟩))
          go_wp2_with fail
          go_ret
          exact ⟨rfl, hx5, gtrans g1 (gof b5 _)⟩
end

end Go.Proofs.Ytggdbiniklchoaa
