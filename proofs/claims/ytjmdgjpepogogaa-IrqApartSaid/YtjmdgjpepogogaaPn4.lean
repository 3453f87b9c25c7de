/-
  Contracts of the program's set: add.
-/
import Derived.Test.YtjmdgjpepogogaaPn3
import Derived.Test.YtjmdgjpepogogaaPnM
namespace Go.Proofs.Ytjmdgjpepogogaa
open Go.RowKit Go.ChangeMaps
set_option linter.unusedVariables false
set_option maxRecDepth 100000

/-- A place's number as its two numbers. -/
def pz (k : Nat) : Int × Int := (((k / 8 : Nat) : Int), ((k % 8 : Nat) : Int))
theorem pz_inj {a b : Nat} (h : pz a = pz b) : a = b := by
  unfold pz at h
  simp only [Prod.mk.injEq] at h
  omega

/-- The set at block x: just the places l wait; all its blocks are of S. -/
structure St (S : Nat → Prop) (w : World) (x m : Nat) (v : Value) (l : List Nat) : Prop where
  hr : HR w x (.map (some m)) v 0 l
  mp : ∃ ks, MapB w m ks ∧ ∀ k, k ∈ ks ↔ k ∈ l.map pz
  row : ∀ g, v.ownBlock = some g → S g
  sx : S x
  sm : S m
  heap : hp l l.length 0
  rng : ∀ k ∈ l, k < 32
  nd : l.Nodup
/-- The set at block x: place k waits, if F k. -/
def SetIs (S : Nat → Prop) (w : World) (x : Nat) (F : Nat → Bool) : Prop := ∃ m v l, St S w x m v l ∧ ∀ k, k ∈ l ↔ (k < 32 ∧ F k = true)
/-- S, and what is new since w. -/
def Nw (S : Nat → Prop) (w : World) (b : Nat) : Prop := S b ∨ w.heap.size ≤ b

theorem len32 (l : List Nat) (h : ∀ k ∈ l, k < 32) (hn : l.Nodup) : l.length ≤ 32 := by
  have := List.Nodup.length_le_of_subset hn (l₂ := List.range 32) (fun a ha => List.mem_range.2 (h a ha))
  simpa using this

section
variable {S : Nat → Prop} {w w' : World} {x m : Nat} {v : Value} {l : List Nat}
theorem St.len (h : St S w x m v l) : l.length ≤ 32 := len32 l h.rng h.nd
theorem St.xm (h : St S w x m v l) : x ≠ m := by obtain ⟨ks, hm, _⟩ := h.mp; exact fun e => hm.ne h.hr.blk e.symm
theorem St.mx (h : St S w x m v l) : v.ownBlock ≠ some m := by obtain ⟨ks, hm, _⟩ := h.mp; exact hm.ne_own h.hr.row
/-- Where its blocks stay, it stays. -/
theorem St.stay (h : St S w x m v l) (hk : ∀ b, b < w.heap.size → S b → w'.heap[b]? = w.heap[b]?) : St S w' x m v l := by
  obtain ⟨ks, hm, hks⟩ := h.mp
  refine ⟨⟨(hk x h.hr.blk.lt h.sx).trans h.hr.blk, ?_⟩, ⟨ks, hm.stay (hk m hm.lt h.sm), hks⟩, h.row, h.sx, h.sm, h.heap, h.rng, h.nd⟩
  have hr := h.hr.row
  refine ⟨hr.1, ?_⟩
  rcases hr.2 with h2 | ⟨g, cap, cur, hv, hb, hg, h3⟩
  · exact .inl h2
  · exact .inr ⟨g, cap, cur, hv, hb, (hk g (Array.getElem?_eq_some_iff.1 hg).1 (h.row g (by rw [hv]; rfl))).trans hg, h3⟩
theorem St.below {B : Nat} (h : St S w x m v l) (hb : Below B w w') (hB : w.heap.size ≤ B) : St S w' x m v l := h.stay (fun b hb' _ => hb.block b (by omega))
theorem St.weak {S' : Nat → Prop} (h : St S w x m v l) (hS : ∀ b, S b → S' b) : St S' w x m v l := ⟨h.hr, h.mp, fun g hg => hS g (h.row g hg), hS x h.sx, hS m h.sm, h.heap, h.rng, h.nd⟩
end
theorem SetIs.stay {S : Nat → Prop} {w w' : World} {x : Nat} {F : Nat → Bool} (h : SetIs S w x F) (hk : ∀ b, b < w.heap.size → S b → w'.heap[b]? = w.heap[b]?) : SetIs S w' x F := by
  obtain ⟨m, v, l, h, hF⟩ := h
  exact ⟨m, v, l, h.stay hk, hF⟩
theorem SetIs.weak {S S' : Nat → Prop} {w : World} {x : Nat} {F : Nat → Bool} (h : SetIs S w x F) (hS : ∀ b, S b → S' b) : SetIs S' w x F := by
  obtain ⟨m, v, l, h, hF⟩ := h
  exact ⟨m, v, l, h.weak hS, hF⟩
theorem SetIs.fn {S : Nat → Prop} {w : World} {x : Nat} {F G : Nat → Bool} (h : SetIs S w x F) (e : ∀ k, k < 32 → F k = G k) : SetIs S w x G := by
  obtain ⟨m, v, l, h, hF⟩ := h
  exact ⟨m, v, l, h, fun k => by rw [hF]; constructor <;> (rintro ⟨h1, h2⟩; have := e k h1; exact ⟨h1, by simp_all⟩)⟩
/-- All its blocks lie within the heap. -/
theorem SetIs.lim {S : Nat → Prop} {w : World} {x : Nat} {F : Nat → Bool} (h : SetIs S w x F) : SetIs (fun b => S b ∧ b < w.heap.size) w x F := by
  obtain ⟨m, v, l, h, hF⟩ := h
  obtain ⟨ks, hm, hks⟩ := h.mp
  exact ⟨m, v, l, ⟨h.hr, h.mp, fun g hg => ⟨h.row g hg, (h.hr.row.lt g hg).2⟩, ⟨h.sx, h.hr.blk.lt⟩, ⟨h.sm, hm.lt⟩, h.heap, h.rng, h.nd⟩, hF⟩

/-- A look at a place in the set's map, in whatever world that has the map. -/
theorem St.look {S : Nat → Prop} {w : World} {x m : Nat} {v : Value} {l : List Nat} (h : St S w x m v l) (k : Nat) (b : Bool) (hb : decide (k ∈ l) = b) (W : World) (hW : W.heap[m]? = w.heap[m]?) :
    (Instr.lookup 94 (.map (some m)) (.agg #[.int .i64 ((k / 8 : Nat) : Int), .int .i64 ((k % 8 : Nat) : Int)]) true).run Try.prog W = .ok (.tuple #[.agg #[], .bool b]) W := by
  obtain ⟨ks, hm, hks⟩ := h.mp
  have := (hm.stay hW).look (pz k)
  rw [← hb]
  have e : decide (pz k ∈ ks) = decide (k ∈ l) := by
    rw [decide_eq_decide, hks, List.mem_map]
    exact ⟨fun ⟨a, ha, e⟩ => pz_inj e ▸ ha, fun h => ⟨k, h, rfl⟩⟩
  rw [e] at this
  exact this

set_option maxHeartbeats 2000000 in
theorem sadd_old (S : Nat → Prop) (x m k : Nat) (v : Value) (l : List Nat) (w : World) (h : St S w x m v l) (hk : k ∈ l) :
    Calls Try.prog 63 #[.pointer (some ⟨x, 0, none⟩), .agg #[.int .i64 ((k / 8 : Nat) : Int), .int .i64 ((k % 8 : Nat) : Int)]] w fun e w' => e = .returned (.bool false) ∧ Below w.heap.size w w' := by
  have hd : decide (k ∈ l) = true := by simpa using hk
  have HLK := Lib.hid (h.look k true hd)
  have H := Lib.hid h
  clear hk hd h
  generalize ((k / 8 : Nat) : Int) = kd at *
  generalize ((k % 8 : Nat) : Int) = kv at *
  go_enter Try.func63, Try.ntmps63
  go_wp2_with fail
  change Code.wp _ _ _ _ (w.alloc (.cells [Value.int .i64 kd, .int .i64 kv].toArray 111))
  have hb1 : Blk (w.alloc (.cells [Value.int .i64 kd, .int .i64 kv].toArray 111)) w.heap.size 111 [.int .i64 kd, .int .i64 kv] := Blk.new _ _ _
  have hw1 : Below w.heap.size w (w.alloc (.cells [Value.int .i64 kd, .int .i64 kv].toArray 111)) := (Below.refl _ _).alloc (Nat.le_refl _) _
  generalize w.alloc (.cells [Value.int .i64 kd, .int .i64 kv].toArray 111) = w1 at *
  have h1 := H.out.below hw1 (Nat.le_refl _)
  have c0 := h1.hr.at0
  have b0 := hb1.cell 0
  have b1 := hb1.cell 1
  simp only [List.getElem?_cons_zero, List.getElem?_cons_succ] at b0 b1
  have q1 := HLK.out w1 (hw1.block m (by obtain ⟨ks, hm, _⟩ := H.out.mp; exact hm.lt))
  have q2 := HLK.out w1.drew (hw1.block m (by obtain ⟨ks, hm, _⟩ := H.out.mp; exact hm.lt))
  have e3 : (w1.alloc (.cells #[] 125)).heap[m]? = w.heap[m]? := by
    rw [Below.heap_alloc _ _ _ (by have := hw1.size; obtain ⟨ks, hm, _⟩ := H.out.mp; exact Nat.lt_of_lt_of_le hm.lt this)]
    exact hw1.block m (by obtain ⟨ks, hm, _⟩ := H.out.mp; exact hm.lt)
  have q3 := HLK.out (w1.alloc (.cells #[] 125)) e3
  have q4 := HLK.out (w1.alloc (.cells #[] 125)).drew e3
  have c0' := ((h1.below ((Below.refl _ _).alloc (Nat.le_refl _) (.cells #[] 125)) (Nat.le_refl _)).hr.at0)
  have hb1' := hb1.alloc (.cells #[] 125)
  have b0' := hb1'.cell 0
  have b1' := hb1'.cell 1
  simp only [List.getElem?_cons_zero, List.getElem?_cons_succ] at b0' b1'
  have H1 := Lib.hid h1
  have HW1 := Lib.hid hw1
  clear h1 hw1 e3 hb1 hb1'
  generalize hg : w.heap.size = g at *
  go_region
  all_goals
    have b2 := (HW1.out.alloc (by rw [← hg]; exact HW1.out.size) (.cells #[] 125)).drew
    clear c0 c0' q1 q2 q3 q4 b0 b1 b0' b1'
    generalize (w1.alloc (.cells #[] 125)).drew = w2 at *
    go_wp2_with fail
    go_ret
    exact ⟨rfl, by rw [hg]; exact b2⟩

set_option maxHeartbeats 2000000 in
theorem sadd_new (S : Nat → Prop) (x m k : Nat) (v : Value) (l : List Nat) (w : World) (h : St S w x m v l) (hk : k ∉ l) (h32 : k < 32) :
    Calls Try.prog 63 #[.pointer (some ⟨x, 0, none⟩), .agg #[.int .i64 ((k / 8 : Nat) : Int), .int .i64 ((k % 8 : Nat) : Int)]] w fun e w' => e = .returned (.bool true) ∧ ∃ v' l', St (Nw S w) w' x m v' l' ∧ l'.Perm (k :: l) ∧ Fo S w w' := by
  have hd : decide (k ∈ l) = false := by simpa using hk
  have HLK := Lib.hid (h.look k false hd)
  have H := Lib.hid h
  have HK := Lib.hid hk
  have hlen := h.len
  have cP0 := fun (w3 : World) (h3 : HR w3 x (.map (some m)) v 0 l) => hpush_any (fun b => b = x ∨ v.ownBlock = some b) x k (.map (some m)) v l w3 h3 (by omega) h.heap (.inl rfl) (fun g hg => .inr hg)
  have CP0 := Lib.hid cP0
  have HP0 : Hid (∃ ks es clock, (∀ i, i ∈ ks ↔ i ∈ (k :: l).map pz) ∧ MapO es ks ∧ ∀ W : World, W.heap[m]? = w.heap[m]? → (Instr.mapUpdate 94 (.map (some m)) (.agg #[.int .i64 ((k / 8 : Nat) : Int), .int .i64 ((k % 8 : Nat) : Int)]) (.agg #[])).run Try.prog W = .ok () (setBlock W m (.map es clock)) ∧ W.grownBy (setBlock W m (.map es clock)) (some m) ∧ (setBlock W m (.map es clock)).heap[m]? = some (.map es clock)) := by
    obtain ⟨ks, hm, hks⟩ := h.mp
    obtain ⟨es, clock, ho, hrun⟩ := hm.put (pz k)
    exact Lib.hid ⟨_, es, clock, fun i => by
      have := hks i
      by_cases hi : pz k ∈ ks
      · rw [if_pos hi, hks]; simp only [List.map_cons, List.mem_cons]; constructor
        · exact .inr
        · rintro (rfl | h1)
          · exact (hks _).1 hi
          · exact h1
      · rw [if_neg hi]; simp only [List.mem_append, List.map_cons, List.mem_cons, hks, List.not_mem_nil, or_false]; exact Or.comm, ho, hrun⟩
  clear hk hd h cP0
  generalize ((k / 8 : Nat) : Int) = kd at *
  generalize ((k % 8 : Nat) : Int) = kv at *
  go_enter Try.func63, Try.ntmps63
  go_wp2_with fail
  change Code.wp _ _ _ _ (w.alloc (.cells [Value.int .i64 kd, .int .i64 kv].toArray 111))
  have hb1 : Blk (w.alloc (.cells [Value.int .i64 kd, .int .i64 kv].toArray 111)) w.heap.size 111 [.int .i64 kd, .int .i64 kv] := Blk.new _ _ _
  have hw1 : Below w.heap.size w (w.alloc (.cells [Value.int .i64 kd, .int .i64 kv].toArray 111)) := (Below.refl _ _).alloc (Nat.le_refl _) _
  generalize w.alloc (.cells [Value.int .i64 kd, .int .i64 kv].toArray 111) = w1 at *
  have h1 := H.out.below hw1 (Nat.le_refl _)
  have c0 := h1.hr.at0
  have b0 := hb1.cell 0
  have b1 := hb1.cell 1
  simp only [List.getElem?_cons_zero, List.getElem?_cons_succ] at b0 b1
  have q1 := HLK.out w1 (hw1.block m (by obtain ⟨ks, hm, _⟩ := H.out.mp; exact hm.lt))
  have q2 := HLK.out w1.drew (hw1.block m (by obtain ⟨ks, hm, _⟩ := H.out.mp; exact hm.lt))
  have e3 : (w1.alloc (.cells #[] 125)).heap[m]? = w.heap[m]? := by
    rw [Below.heap_alloc _ _ _ (by have := hw1.size; obtain ⟨ks, hm, _⟩ := H.out.mp; exact Nat.lt_of_lt_of_le hm.lt this)]
    exact hw1.block m (by obtain ⟨ks, hm, _⟩ := H.out.mp; exact hm.lt)
  have q3 := HLK.out (w1.alloc (.cells #[] 125)) e3
  have q4 := HLK.out (w1.alloc (.cells #[] 125)).drew e3
  have c0' := ((h1.below ((Below.refl _ _).alloc (Nat.le_refl _) (.cells #[] 125)) (Nat.le_refl _)).hr.at0)
  have hb1' := hb1.alloc (.cells #[] 125)
  have b0' := hb1'.cell 0
  have b1' := hb1'.cell 1
  simp only [List.getElem?_cons_zero, List.getElem?_cons_succ] at b0' b1'
  have H1 := Lib.hid h1
  have HW1 := Lib.hid hw1
  have HBL := Lib.hid hb1
  clear h1 hw1 e3 hb1 hb1'
  have HB1 := Lib.hid HBL.out
  obtain ⟨ks, es, clock, hks, ho, hrun⟩ := HP0.out
  have HR_ := Lib.hid hrun
  have HO := Lib.hid ho
  have HKS := Lib.hid hks
  clear hrun ho hks HP0
  have hwg := HW1.out
  generalize hg : w.heap.size = g at *
  go_region
  all_goals
    have b2 := (hwg.alloc (by rw [← hg]; exact hwg.size) (.cells #[] 125)).drew
    have h2 := H.out.below b2 (by rw [hg]; exact Nat.le_refl _)
    clear c0 c0' q1 q2 q3 q4 b0 b1 hwg HW1 H1
    have hb2 : Blk (w1.alloc (.cells #[] 125)).drew g 111 [.int .i64 kd, .int .i64 kv] := (HB1.out.alloc (.cells #[] 125)).drewN 1
    clear b0' b1'
    generalize (w1.alloc (.cells #[] 125)).drew = w2 at *
    have c0 := h2.hr.at0
    have d0 := hb2.cell 0
    have d1 := hb2.cell 1
    simp only [List.getElem?_cons_zero, List.getElem?_cons_succ] at d0 d1
    have HB2 := Lib.hid hb2
    clear hb2
    have e2 : w2.heap[m]? = w.heap[m]? := b2.block m (by obtain ⟨ks, hm, _⟩ := H.out.mp; have := hm.lt; omega)
    have r1 := (HR_.out w2 e2).1
    have r2 := (HR_.out w2.drew e2).1
    have H2 := Lib.hid h2
    have B2 := Lib.hid b2
    clear h2 b2
    go_wp2_with fail
    go_region
    obtain ⟨gr3, hm3⟩ := (HR_.out w2.drew e2).2
    replace gr3 := gtrans (gdrewN (grefl w2 (some m)) 1) gr3
    clear r1 r2 c0 d0 d1 e2
    generalize setBlock w2.drew m (.map es clock) = w3 at *
    have h3 : HR w3 x (.map (some m)) v 0 l := ⟨H2.out.hr.blk.grown gr3 (fun e => H2.out.xm (by injection e)), H2.out.hr.row.kept gr3 (.inr H2.out.mx)⟩
    have hb3 := HB2.out.grown gr3 (fun e => by have := H.out.mp; obtain ⟨_, hm, _⟩ := this; have := hm.lt; injection e; omega)
    have d0 := hb3.cell 0
    have d1 := hb3.cell 1
    simp only [List.getElem?_cons_zero, List.getElem?_cons_succ] at d0 d1
    have c1 := h3.at1
    have H3 := Lib.hid h3
    have GR3 := Lib.hid gr3
    have HM3 := Lib.hid hm3
    clear h3 hb3 gr3 hm3
    go_wp2_with fail
    go_still_tail 6, (by kernel_rfl)
    change wpList _ _ _ _ _ w3.drew
    have cP := CP0.out w3.drew (H3.out.drewN 1)
    go_wp2_with fail
    refine cP.mono ?_
    rintro e w4 ⟨rfl, l', v', r4, p4, hp4⟩
    have R4 := Lib.hid r4; have P4 := Lib.hid p4; have HP4 := Lib.hid hp4
    clear r4 p4 hp4 cP d0 d1 c1
    go_wp2_with fail
    go_ret
    refine ⟨rfl, v', l', ⟨R4.out.hr, ⟨ks, ⟨es, clock, ?_, HO.out⟩, fun i => by rw [HKS.out]; exact ((P4.out.map pz).mem_iff).symm⟩, ?_, .inl H.out.sx, .inl H.out.sm, HP4.out, ?_, ?_⟩, P4.out, ?_⟩
    · exact (R4.out.fo.block m (by obtain ⟨_, hm, _⟩ := H.out.mp; have := hm.lt; have h5 := B2.out.size; have h6 := GR3.out.size; show m < w3.heap.size; omega) (fun e => e.elim (fun e => H.out.xm e.symm) H.out.mx)).trans HM3.out
    · intro i hi
      rcases R4.out.row i hi with (h5 | h5) | h5
      · exact .inl (h5 ▸ H.out.sx)
      · exact .inl (H.out.row i h5)
      · have h6 := B2.out.size; have h7 := GR3.out.size; have h8 : w3.heap.size ≤ i := h5
        exact .inr (by omega)
    · intro i hi
      rcases List.mem_cons.1 (P4.out.mem_iff.1 hi) with rfl | h5
      · exact h32
      · exact H.out.rng i h5
    · exact P4.out.nodup_iff.2 (List.nodup_cons.2 ⟨HK.out, H.out.nd⟩)
    · have f1 : Fo S w w3 := (Fo.of (by rw [hg]; exact B2.out) S).grown GR3.out (fun i hi => .inl (by injection hi with hi; subst hi; exact H.out.sm))
      have f2 : Fo (fun b => b = x ∨ v.ownBlock = some b) w3 w4 := (show Fo (fun b => b = x ∨ v.ownBlock = some b) w3 w3.drew from (Fo.refl _ w3).drewN 1).trans R4.out.fo
      exact f1.trans_new f2 (fun i (hi : i = x ∨ v.ownBlock = some i) => .inl (hi.elim (fun e => e ▸ H.out.sx) (H.out.row i)))
end Go.Proofs.Ytjmdgjpepogogaa
