/-
  Contracts of the program's set: take. First what its loop keeps.
-/
import Derived.Test.YtjmdgjpepogogaaPn5
namespace Go.Proofs.Ytjmdgjpepogogaa
open Go.RowKit Go.ChangeMaps
set_option linter.unusedVariables false
set_option maxRecDepth 100000

/-- Is place k named by the keys hs? -/
def hB (hs : List (Int × Int)) (k : Nat) : Bool := decide (pz k ∈ hs)

/-- Take's loop, its memory: the set's row is l' (v), its map has the places mpl; u: the places A that were taken; t: the places B that are left; mm: the map with the keys hs. -/
structure Tg (S : Nat → Prop) (w : World) (x m mm : Nat) (hs : List (Int × Int)) (A B mpl l' : List Nat) (v u t : Value) (wr : World) : Prop where
  hr : HR wr x (.map (some m)) v 0 l'
  ru : RW wr w.heap.size u A
  rt : RW wr w.heap.size t B
  vu : v.ownBlock = none ∨ v.ownBlock ≠ u.ownBlock
  vt : v.ownBlock = none ∨ v.ownBlock ≠ t.ownBlock
  ut : u.ownBlock = none ∨ u.ownBlock ≠ t.ownBlock
  mp : ∃ ks, MapB wr m ks ∧ ∀ i, i ∈ ks ↔ i ∈ mpl.map pz
  hm : MapB wr mm hs
  ne : m ≠ mm
  row : ∀ g, v.ownBlock = some g → S g ∨ w.heap.size ≤ g
  fo : Fo S w wr

theorem own_none {a b : Option Nat} (h : a = none ∨ a ≠ b) : b = none ∨ b ≠ a := by
  rcases h with h | h
  · cases b with
    | none => exact .inl rfl
    | some r => exact .inr (by rw [h]; simp)
  · exact .inr (fun e => h e.symm)

section
variable {S : Nat → Prop} {w wr w' : World} {x m mm : Nat} {hs : List (Int × Int)} {A B mpl l' : List Nat} {v u t : Value}
theorem Tg.drewN (h : Tg S w x m mm hs A B mpl l' v u t wr) (n : Nat) : Tg S w x m mm hs A B mpl l' v u t (wr.drewN n) := { h with hr := h.hr.drewN n, fo := h.fo.drewN n }
/-- New blocks: nothing of it turns. -/
theorem Tg.below (h : Tg S w x m mm hs A B mpl l' v u t wr) (hb : Below wr.heap.size wr w') : Tg S w x m mm hs A B mpl l' v u t w' :=
  { h with
    hr := ⟨h.hr.blk.below hb h.hr.blk.lt, own_below h.hr.row hb⟩
    ru := own_below h.ru hb
    rt := own_below h.rt hb
    mp := by obtain ⟨ks, hm, e⟩ := h.mp; exact ⟨ks, hm.stay (hb.block m hm.lt), e⟩
    hm := h.hm.stay (hb.block mm h.hm.lt)
    fo := h.fo.trans (Fo.of hb S) }
theorem Tg.congr {mpl' : List Nat} (h : Tg S w x m mm hs A B mpl l' v u t wr) (e : ∀ k, k ∈ mpl ↔ k ∈ mpl') : Tg S w x m mm hs A B mpl' l' v u t wr :=
  { h with mp := by obtain ⟨ks, hm, h2⟩ := h.mp; exact ⟨ks, hm, fun i => by rw [h2, List.mem_map, List.mem_map]; exact ⟨fun ⟨a, h3, h4⟩ => ⟨a, (e a).1 h3, h4⟩, fun ⟨a, h3, h4⟩ => ⟨a, (e a).2 h3, h4⟩⟩⟩ }
/-- The set's row turned. -/
theorem Tg.pop {l2 : List Nat} {v2 : Value} (h : Tg S w x m mm hs A B mpl l' v u t wr) (hx : S x) (r : Rs (fun b => b = x ∨ v.ownBlock = some b) wr x (.map (some m)) l2 v2 w') : Tg S w x m mm hs A B mpl l2 v2 u t w' := by
  have sz := h.fo.size
  have far : ∀ {y : Value} {C : List Nat}, RW wr w.heap.size y C → (v.ownBlock = none ∨ v.ownBlock ≠ y.ownBlock) → RW w' w.heap.size y C ∧ (v2.ownBlock = none ∨ v2.ownBlock ≠ y.ownBlock) := by
    intro y C hy hv
    have hyx : y.ownBlock ≠ some x := own_apart_blk hy h.hr.blk (by decide)
    refine ⟨?_, ?_⟩
    · refine ⟨hy.1, ?_⟩
      rcases hy.2 with h2 | ⟨g, cap, cur, hyv, hb, hg, h3⟩
      · exact .inl h2
      · refine .inr ⟨g, cap, cur, hyv, hb, (r.fo.block g (Array.getElem?_eq_some_iff.1 hg).1 ?_).trans hg, h3⟩
        have ey : y.ownBlock = some g := by rw [hyv]; rfl
        rintro (rfl | e)
        · exact hyx ey
        · rcases hv with hv | hv
          · rw [hv] at e; cases e
          · exact hv (e.trans ey.symm)
    · cases hv2 : v2.ownBlock with
      | none => exact .inl rfl
      | some g =>
        refine .inr (fun e => ?_)
        have hlt := (hy.lt g e.symm).2
        rcases r.row g hv2 with (rfl | h1) | h1
        · exact hyx e.symm
        · rcases hv with hv | hv
          · rw [hv] at h1; cases h1
          · exact hv (h1.trans e)
        · omega
  obtain ⟨ru', vu'⟩ := far h.ru h.vu
  obtain ⟨rt', vt'⟩ := far h.rt h.vt
  have mst : ∀ {i : Nat} {ks : List (Int × Int)}, MapB wr i ks → MapB w' i ks := fun hm => hm.stay (r.fo.block _ hm.lt (by
    rintro (e | e)
    · exact hm.ne h.hr.blk e
    · exact hm.ne_own h.hr.row e))
  refine ⟨r.hr, ru', rt', vu', vt', h.ut, ?_, mst h.hm, h.ne, ?_, ?_⟩
  · obtain ⟨ks, hm, e⟩ := h.mp
    exact ⟨ks, mst hm, e⟩
  · intro g hg
    rcases r.row g hg with (rfl | h1) | h1
    · exact .inl hx
    · exact h.row g h1
    · exact .inr (by omega)
  · exact h.fo.trans_new r.fo (fun i hi => hi.elim (fun e => .inl (e ▸ hx)) (h.row i))
/-- What is left grows. -/
theorem Tg.left {C : List Nat} {g cap : Nat} (h : Tg S w x m mm hs A B mpl l' v u t wr) (own : RW w' w.heap.size (.slice (some ⟨g, 0, none⟩) C.length cap) C) (gr : wr.grownBy w' t.ownBlock) (hat : t.ownBlock = some g ∨ g = wr.heap.size) : Tg S w x m mm hs A C mpl l' v u (.slice (some ⟨g, 0, none⟩) C.length cap) w' := by
  have hw := h.rt
  have ntx : t.ownBlock ≠ some x := own_apart_blk hw h.hr.blk (by decide)
  have far : ∀ {y : Value} {b : Nat} {D : List Nat}, RW wr b y D → (y.ownBlock = none ∨ y.ownBlock ≠ t.ownBlock) → (y.ownBlock = none ∨ y.ownBlock ≠ some g) := by
    intro y b D hy hv
    rcases hat with e | e
    · rw [← e]; exact hv
    · subst e
      refine .inr (fun e => ?_)
      have := (hy.lt _ e).2
      omega
  have mst : ∀ {i : Nat} {ks : List (Int × Int)}, MapB wr i ks → MapB w' i ks := fun hm => hm.stay (gr.block _ hm.lt (fun e => hm.ne_own hw e.symm))
  refine ⟨⟨h.hr.blk.grown gr (fun e => ntx e.symm), h.hr.row.kept gr h.vt⟩, h.ru.kept gr h.ut, own, h.vu, far h.hr.row h.vt, far h.ru h.ut, ?_, mst h.hm, h.ne, h.row, h.fo.grown gr (fun i hi => .inr (hw.lt i hi).1)⟩
  obtain ⟨ks, hm, e⟩ := h.mp
  exact ⟨ks, mst hm, e⟩
/-- What is taken grows. -/
theorem Tg.take {C : List Nat} {g cap : Nat} (h : Tg S w x m mm hs A B mpl l' v u t wr) (own : RW w' w.heap.size (.slice (some ⟨g, 0, none⟩) C.length cap) C) (gr : wr.grownBy w' u.ownBlock) (hat : u.ownBlock = some g ∨ g = wr.heap.size) : Tg S w x m mm hs C B mpl l' v (.slice (some ⟨g, 0, none⟩) C.length cap) t w' := by
  have h' : Tg S w x m mm hs B A mpl l' v t u wr := { h with ru := h.rt, rt := h.ru, vu := h.vt, vt := h.vu, ut := own_none h.ut }
  have h2 := h'.left own gr hat
  exact { h2 with ru := h2.rt, rt := h2.ru, vu := h2.vt, vt := h2.vu, ut := own_none h2.ut }
/-- The set's map turned. -/
theorem Tg.mapped {es : Array MapEntry} {clock : Nat} {ks : List (Int × Int)} {mpl' : List Nat} (h : Tg S w x m mm hs A B mpl l' v u t wr) (hm : S m) (gr : wr.grownBy w' (some m)) (hb : w'.heap[m]? = some (.map es clock)) (ho : MapO es ks) (e : ∀ i, i ∈ ks ↔ i ∈ mpl'.map pz) : Tg S w x m mm hs A B mpl' l' v u t w' := by
  obtain ⟨k0, hm0, _⟩ := h.mp
  exact ⟨⟨h.hr.blk.grown gr (fun e => hm0.ne h.hr.blk (by injection e with e; exact e.symm)), h.hr.row.kept gr (.inr (hm0.ne_own h.hr.row))⟩, h.ru.kept gr (.inr (hm0.ne_own h.ru)), h.rt.kept gr (.inr (hm0.ne_own h.rt)), h.vu, h.vt, h.ut, ⟨ks, ⟨es, clock, hb, ho⟩, e⟩,
    h.hm.stay (gr.block mm h.hm.lt (fun e => h.ne (by injection e with e; exact e.symm))), h.ne, h.row, h.fo.grown gr (fun i hi => .inl (by injection hi with hi; exact hi ▸ hm))⟩
end

/-- Take's loop, its numbers: P were popped, l' wait. -/
structure Tq (l P l' : List Nat) : Prop where
  pm : (P ++ l').Perm l
  srt : P.Pairwise (· < ·)
  lt : ∀ a ∈ P, ∀ b ∈ l', a < b
  hp : hp l' l'.length 0

theorem Tq.pop {l P l' l2 : List Nat} (h : Tq l P l') (hn : l.Nodup) (p : (gd l' 0 :: l2).Perm l') (hh : Go.Proofs.Ytjmdgjpepogogaa.hp l2 l2.length 0) (hm : ∀ b ∈ l2, gd l' 0 ≤ b) : Tq l (P ++ [gd l' 0]) l2 := by
  have hn' : l'.Nodup := ((h.pm.nodup_iff.2 hn).sublist (List.sublist_append_right _ _))
  have hk := (List.nodup_cons.1 (p.nodup_iff.2 hn')).1
  have hmem : ∀ b, b ∈ l' ↔ b = gd l' 0 ∨ b ∈ l2 := fun b => by rw [← p.mem_iff, List.mem_cons]
  refine ⟨?_, ?_, ?_, hh⟩
  · rw [List.append_assoc]
    exact (List.Perm.append_left P p).trans h.pm
  · rw [List.pairwise_append]
    exact ⟨h.srt, List.pairwise_singleton _ _, fun a ha b hb => by simp at hb; subst hb; exact h.lt a ha _ ((hmem _).2 (.inl rfl))⟩
  · intro a ha b hb
    rcases List.mem_append.1 ha with ha | ha
    · exact h.lt a ha b ((hmem b).2 (.inr hb))
    · simp at ha; subst ha
      have := hm b hb
      rcases Nat.lt_or_ge (gd l' 0) b with h1 | h1
      · exact h1
      · exact absurd hb (by rw [show b = gd l' 0 by omega]; exact hk)
theorem Tq.nodup {l P l' : List Nat} (h : Tq l P l') (hn : l.Nodup) : (P ++ l').Nodup := h.pm.nodup_iff.2 hn

end Go.Proofs.Ytjmdgjpepogogaa
