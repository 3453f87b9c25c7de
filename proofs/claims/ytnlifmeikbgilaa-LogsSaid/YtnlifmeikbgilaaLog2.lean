/-
  Contracts of the document's log: NewLog, Add, Take.
-/
import Derived.Test.YtnlifmeikbgilaaLog1
namespace Go.Proofs.Ytnlifmeikbgilaa
open Go.RowKit
set_option linter.unusedVariables false
set_option maxRecDepth 100000
attribute [local go_sem ↓] Go.wp_at_zero Go.wp_at_succ

/-- The document's log: at block r, c how many are kept, the slice v, which holds l in a row not below B, k how many were only counted. -/
structure RF (w : World) (B r c : Nat) (v : Value) (l : List Fl) (k : Nat) : Prop where
  blk : Blk w r 46 [.int .i64 c, v, .int .i64 k]
  own : w.ownsRow B 34 5 v l.length (fls l)

section
variable {w w' : World} {B r c k : Nat} {v : Value} {l : List Fl}
theorem RF.apart (h : RF w B r c v l k) : some r ≠ v.ownBlock := fun e => own_apart_blk h.own h.blk (by decide) e.symm
theorem RF.drewN (h : RF w B r c v l k) (n : Nat) : RF (w.drewN n) B r c v l k := ⟨h.blk, h.own⟩
theorem RF.below (h : RF w B r c v l k) (hb : Below w.heap.size w w') : RF w' B r c v l k := ⟨h.blk.below hb h.blk.lt, own_below h.own hb⟩
theorem RF.grown {row : Option Nat} (h : RF w B r c v l k) (hb : w.grownBy w' row) (hr : some r ≠ row) (hv : v.ownBlock = none ∨ v.ownBlock ≠ row) : RF w' B r c v l k := ⟨h.blk.grown hb hr, h.own.kept hb hv⟩
theorem RF.cell0 (h : RF w B r c v l k) : w.cell? ⟨r, 0, none⟩ = some (.int .i64 c) := by rw [h.blk.cell]; rfl
theorem RF.cell1 (h : RF w B r c v l k) : w.cell? ⟨r, 1, none⟩ = some v := by rw [h.blk.cell]; rfl
theorem RF.cell2 (h : RF w B r c v l k) : w.cell? ⟨r, 2, none⟩ = some (.int .i64 k) := by rw [h.blk.cell]; rfl
theorem RF.form (h : RF w B r c v l k) : ∃ A cap, v = .slice A l.length cap ∧ l.length ≤ cap := by
  obtain ⟨A, cap, e, hc, _⟩ := Sl.own h.own
  exact ⟨A, cap, e, hc⟩
end

theorem rlnew_no (c : Int) (w : World) (h : ¬ (1 ≤ c ∧ c ≤ 16)) :
    Calls Try.prog 6 #[.int .i64 c] w fun e w' => e = .returned (.tuple #[.pointer none, .int .i64 800]) ∧ w = w' := by
  by_cases h1 : c < 1
  · clear h
    go_enter Try.func6, Try.ntmps6
    go_wp2
    go_ret2
    exact ⟨rfl, rfl⟩
  · have h2 : 16 < c := by omega
    clear h
    go_enter Try.func6, Try.ntmps6
    go_wp2
    go_ret2
    exact ⟨rfl, rfl⟩

theorem rlnew_yes (c : Nat) (w : World) (h1 : 1 ≤ c) (h2 : c ≤ 16) :
    Calls Try.prog 6 #[.int .i64 c] w fun e w' => e = .returned (.tuple #[.pointer (some ⟨w.heap.size, 0, none⟩), .int .i64 0]) ∧ RF w' w.heap.size w.heap.size c (.slice none 0 0) [] 0 ∧ Below w.heap.size w w' := by
  have h3 : decide ((c : Int) < 1) = false := by simp; omega
  have h4 : decide ((16 : Int) < c) = false := by simp; omega
  go_enter Try.func6, Try.ntmps6
  go_wp2
  go_ret2
  exact ⟨rfl, ⟨Blk.new w _ [.int .i64 (c : Int), .slice none 0 0, .int .i64 0], World.ownsRow_nil _ _ _ _⟩, (Below.refl _ _).alloc (Nat.le_refl _) _⟩

set_option maxRecDepth 100000 in
theorem rladd_full (B r c : Nat) (v : Value) (l : List Fl) (k : Nat) (x : Fl) (w : World) (h : RF w B r c v l k) (hc : c ≤ l.length) (hk : k ≤ 65535) :
    Calls Try.prog 10 #[.pointer (some ⟨r, 0, none⟩), .agg #[.int .i64 x.t, .int .i64 x.d, .int .i64 x.i, .bool x.w, .int .i64 x.c]] w fun e w' => e = .returned (.tuple #[]) ∧ RF w' B r c v l (min (k + 1) 65535) ∧ w.grownBy w' (some r) := by
  have hrl := h.blk.lt
  obtain ⟨A, cap, rfl, hcap⟩ := h.form
  obtain ⟨n, hn⟩ : ∃ n, n = l.length := ⟨_, rfl⟩
  rw [← hn] at hc hcap
  have hd : decide ((n : Int) < (c : Int)) = false := by simp; omega
  have HN := Lib.hid hn
  have H := Lib.hid h
  clear h hn
  go_enter Try.func10, Try.ntmps10
  go_wp2_with fail
  change Code.wp _ _ _ _ (w.alloc (.cells (fl5 x).toArray 34))
  have b1 : Below w.heap.size w (w.alloc (.cells (fl5 x).toArray 34)) := (Below.refl _ _).alloc (Nat.le_refl _) _
  generalize w.alloc (.cells (fl5 x).toArray 34) = wa at *
  have hta := H.out.below b1
  have c0 := hta.cell0
  have c1 := hta.cell1
  rw [show l.length = n by have := HN.out; omega] at c1
  go_quiet (fail)
  replace hta := hta.drewN nq
  replace b1 := bdrewN b1 nq
  clear c0 c1
  generalize wa.drewN nq = wd at *
  have c2 := hta.cell2
  have f2 := hta.blk.frozen 2
  have fin : ∀ q : Nat, q = min (k + 1) 65535 → RF (wd.setCell ⟨r, 2, none⟩ (.int .i64 q)) B r c (.slice A l.length cap) l (min (k + 1) 65535) ∧ w.grownBy (wd.setCell ⟨r, 2, none⟩ (.int .i64 q)) (some r) := by
    rintro q rfl
    exact ⟨⟨hta.blk.set 2 _, hta.own.kept (gone _) (by right; exact fun e => hta.apart e.symm)⟩, gset (gof b1 _) (.inl rfl) _⟩
  have F := Lib.hid fin; clear fin
  clear hta
  go_wp2_with fail
  all_goals
    try simp only [Exit.inBlock, Exit.then]
    refine bodyPost_ret (results_none rfl _ _ _) rfl ?_
    first
    | exact ⟨rfl, F.out (k + 1) (by omega)⟩
    | exact ⟨rfl, F.out 65535 (by omega)⟩

/-- The cells that an Add reads behind its append. -/
theorem RF.of {w1 w2 : World} {B r n : Nat} {v : Value} {cs xs : List Value} (o : Obj) (hb : Blk w1 r 46 cs) (own : w1.ownsRow B 34 5 v n xs)
    (gr : (w1.alloc o).drew.grownBy w2 v.ownBlock) : Blk w2 r 46 cs :=
  (show Blk (w1.alloc o).drew r _ _ from (hb.alloc o).drewN 1).grown gr (fun e => own_apart_blk own hb (by decide) e.symm)

set_option maxRecDepth 100000 in
set_option maxHeartbeats 4000000 in
theorem rladd_room (B r c : Nat) (v : Value) (l : List Fl) (k : Nat) (x : Fl) (w : World) (h : RF w B r c v l k) (hB : B ≤ w.heap.size) (hc : l.length < c) (hc16 : c ≤ 16) :
    Calls Try.prog 10 #[.pointer (some ⟨r, 0, none⟩), .agg #[.int .i64 x.t, .int .i64 x.d, .int .i64 x.i, .bool x.w, .int .i64 x.c]] w fun e w' => e = .returned (.tuple #[]) ∧ (∃ v', RF w' B r c v' (l ++ [x]) k) ∧ (∀ i, i < w.heap.size → i ≠ r → some i ≠ v.ownBlock → w'.heap[i]? = w.heap[i]?) ∧ Below (min B r) w w' := by
  have hrl := h.blk.lt
  obtain ⟨A, cap, rfl, hcap⟩ := h.form
  obtain ⟨n, hn⟩ : ∃ n, n = l.length := ⟨_, rfl⟩
  rw [← hn] at hc hcap
  have hd : decide ((c : Int) ≤ (n : Int)) = false := by simp; omega
  have HN := Lib.hid hn
  have H := Lib.hid h
  obtain ⟨i0, hi, hz0, hz1, hz2⟩ := info_parts infoFault
  have HI := Lib.hid hi; have HZ0 := Lib.hid hz0; have HZ1 := Lib.hid hz1; have HZ2 := Lib.hid hz2
  clear h hn hi hz0 hz1 hz2
  go_enter Try.func10, Try.ntmps10
  go_wp2_with fail
  change Code.wp _ _ _ _ (w.alloc (.cells (fl5 x).toArray 34))
  have hv : Blk (w.alloc (.cells (fl5 x).toArray 34)) w.heap.size 34 (fl5 x) := Blk.new _ _ _
  have b1 : Below w.heap.size w (w.alloc (.cells (fl5 x).toArray 34)) := (Below.refl _ _).alloc (Nat.le_refl _) _
  generalize w.alloc (.cells (fl5 x).toArray 34) = wa at *
  have hta := H.out.below b1
  have c0 := hta.cell0
  have c1 := hta.cell1
  rw [show l.length = n by have := HN.out; omega] at c1
  generalize hh : w.heap.size = h at *
  have hwh : w.heap.size ≤ h := by omega
  have HH := Lib.hid hh; clear hh
  go_quiet (fail)
  replace hta := hta.drewN nq
  replace b1 := bdrewN b1 nq
  replace hv := hv.drewN nq
  clear c0 c1
  generalize wa.drewN nq = w1 at *
  have c1 := hta.cell1
  rw [show l.length = n by have := HN.out; omega] at c1
  have hvl := hv.lt
  have hfz := hta.blk.frozen 1
  have v0 := hv.cell 0
  have v1 := hv.cell 1
  have v2 := hv.cell 2
  have v3 := hv.cell 3
  have v4 := hv.cell 4
  simp only [fl5, List.getElem?_cons_zero, List.getElem?_cons_succ] at v0 v1 v2 v3 v4
  have hrl1 : r < w1.heap.size := hta.blk.lt
  have hBw : B ≤ w1.heap.size := by have := b1.size; omega
  have HOW := Lib.hid hta.own
  have HBK := Lib.hid hta.blk
  have HB1 := Lib.hid b1
  clear hta hv b1 H
  go_wp2_with fail
  go_region_law ((refine step_append_lies _ (by rfl) _ _ 22 (by rfl) B 34 i0 _ 5 40 Try.underlying22 HI.out HZ0.out HZ1.out HZ2.out (by rfl) (by decide) (.slice A l.length cap) l.length (fls l) (by rw [← HN.out]; rfl) (own_drewN (HOW.out.alloc _) 1) ⟨w1.heap.size, 0, none⟩ 1 1 (fl5 x) (by rfl) (by rfl) (by exact row_new w1 (fl5 x) _) (by intro u hu; exact fls_one [x] u (by simpa [fls] using hu)) (by omega) (by unfold maxLen; have := HN.out; omega) (by have := HN.out; omega) (by simp; omega) (w1.heap.size + 1) (by simp) ?_; intro g cap2 w2 own2 gr2 hat hlt; have hb2 := RF.of _ HBK.out HOW.out gr2; have hc2 := hb2.cell 1; have hf2 := hb2.frozen 1; simp only [List.getElem?_cons_zero, List.getElem?_cons_succ] at hc2))
  all_goals
    obtain rfl := HN.out
    have hl3 : (l ++ [x]).length = l.length + 1 := by simp
    have own3 : w2.ownsRow B 34 5 (.slice (some ⟨g, 0, none⟩) (l.length + 1) cap2) (l ++ [x]).length (fls (l ++ [x])) := by
      rw [hl3, fls_append]; simpa [fls] using own2
    have gk := gone (w := w2) (g := r) (i := 1) (.slice (some ⟨g, 0, none⟩) (l.length + 1) cap2)
    have hr4 : RF (w2.setCell ⟨r, 1, none⟩ (.slice (some ⟨g, 0, none⟩) (l.length + 1) cap2)) B r c (.slice (some ⟨g, 0, none⟩) (l.length + 1) cap2) (l ++ [x]) k :=
      ⟨hb2.set 1 _, own3.kept gk (.inr (fun e => own_apart_blk own3 hb2 (by decide) e))⟩
    have hsz := gr2.size
    have b2 : Below (min B r) w w2 := ((((HB1.out.mono (by omega)).alloc (by omega) _).drew).grown gr2 (by simp; omega) (fun i hi => by have := (HOW.out.lt i hi).1; omega))
    have b4 := bone b2 gk (by simp at hsz; omega) (by omega)
    have fr : ∀ i, i < h → i ≠ r → some i ≠ (Value.slice A l.length cap).ownBlock → (w2.setCell ⟨r, 1, none⟩ (.slice (some ⟨g, 0, none⟩) (l.length + 1) cap2)).heap[i]? = w.heap[i]? := by
      intro i hi h1 h2
      have hs1 := HB1.out.size
      rw [gk.block i (by simp at hsz; omega) (fun e => h1 (by injection e with e)), gr2.block i (by simp; omega) h2]
      have : ((w1.alloc (Obj.cells #[Value.int .i64 x.t, .int .i64 x.d, .int .i64 x.i, .bool x.w, .int .i64 x.c] 34)).drew).heap[i]? = w1.heap[i]? := Below.heap_alloc _ _ _ (by omega)
      rw [this]
      exact HB1.out.block i hi
    clear hc2 hf2 hb2 own2 own3 gr2 hat c1 hfz v0 v1 v2 v3 v4 gk b2
    rw [← HH.out] at fr
    go_wp2_with fail
    go_end0
    exact ⟨rfl, ⟨_, hr4⟩, fr, b4⟩

set_option maxRecDepth 100000 in
theorem rltake_any (B r c : Nat) (v : Value) (l : List Fl) (k : Nat) (w : World) (h : RF w B r c v l k) :
    Calls Try.prog 12 #[.pointer (some ⟨r, 0, none⟩)] w fun e w' => e = .returned (.tuple #[v, .int .i64 k]) ∧ RF w' B r c (.slice none 0 0) [] 0 ∧ w'.ownsRow B 34 5 v l.length (fls l) ∧ w.grownBy w' (some r) := by
  obtain ⟨A, cap, hv, hcap⟩ := h.form
  have H := Lib.hid h
  have c1 := h.cell1
  have c2 := h.cell2
  have hap := h.apart
  clear h
  generalize hn : l.length = n at *
  have HN := Lib.hid hn; clear hn
  subst hv
  go_enter Try.func12, Try.ntmps12
  go_wp2_with fail
  go_quiet (fail)
  have hb := H.out.blk.drewN nq
  have g2 := gdrewN (grefl w (some r)) nq
  generalize w.drewN nq = w2 at *
  have d1 := hb.cell 1
  have d2 := hb.cell 2
  have f1 := hb.frozen 1
  have f2 := hb.frozen 2
  simp only [List.getElem?_cons_zero, List.getElem?_cons_succ] at d1 d2
  have hb4 := (hb.set 1 (.slice none 0 0)).set 2 (.int .i64 0)
  have gk := gtrans (gtrans g2 (gone (g := r) (i := 1) (.slice none 0 0))) (gone (g := r) (i := 2) (.int .i64 0))
  have own3 := H.out.own.kept gk (.inr (fun e => hap e.symm))
  rw [HN.out] at own3
  clear hb g2 c1 c2
  go_wp2_with fail
  go_ret2
  exact ⟨rfl, ⟨hb4, World.ownsRow_nil _ _ _ _⟩, own3, gk⟩

end Go.Proofs.Ytnlifmeikbgilaa
