/-
  Contracts of package pending: Clear, New.
-/
import Derived.Test.YtjmdgjpepogogaaPnc
namespace Go.Proofs.Ytjmdgjpepogogaa
open Go.RowKit Go.ChangeMaps
set_option linter.unusedVariables false
set_option maxRecDepth 100000

/-- What waits behind a Clear of the first q parts; how many there were. -/
def clF (F : Nat → Bool) (d : Int) (q : Nat) : Nat → Bool := fun i => if i / 32 < q then (F i && !dv d (i % 32)) else F i
def cntA (F : Nat → Bool) (d : Int) : Nat → Nat
  | 0 => 0
  | q + 1 => cntA F d q + cntL (fun k => F (q * 32 + k)) d
theorem cntL_le (F : Nat → Bool) (d : Int) : cntL F d ≤ 32 := by
  unfold cntL; have := List.length_filter_le (fun k => F k && dv d k) (List.range 32); simpa using this
theorem cntL_congr {F G : Nat → Bool} (d : Int) (h : ∀ k, k < 32 → F k = G k) : cntL F d = cntL G d := by
  unfold cntL
  rw [List.filter_congr (fun k hk => by rw [h k (List.mem_range.1 hk)])]
theorem cntA_le (F : Nat → Bool) (d : Int) : ∀ q, cntA F d q ≤ q * 32
  | 0 => Nat.le_refl _
  | q + 1 => by have := cntA_le F d q; have := cntL_le (fun k => F (q * 32 + k)) d; unfold cntA; omega

/-- Clear's loop. -/
def Cll (w : World) (s n : Nat) (v : Value) (xs : List Nat) (O : Nat → Nat) (F : Nat → Bool) (d : Int) (q : Nat) (wr : World) : Prop := PN w s n v xs O (clF F d q) wr

theorem Cll.step {w wr w' : World} {s n : Nat} {v : Value} {xs : List Nat} {O O1 : Nat → Nat} {F : Nat → Bool} {d : Int} {q : Nat} (hq : q < n) (h : PS wr s n v xs O1 (clF F d q)) (h1 : ∀ b, b < w.heap.size → O1 b = O b) (f1 : Fo (fun b => O b ≠ 0) w wr)
    (hs : SetIs (Nw (fun b => O1 b = q + 2) wr) w' (xs.getD q 0) (fun k => F (q * 32 + k) && !dv d k)) (fo : Fo (fun b => O1 b = q + 2) wr w') : Cll w s n v xs O F d (q + 1) w' := by
  refine ⟨_, h.turn hq fo (fun _ => true) (fun p k hp hk => ?_) ?_, fun b hb => ?_, f1.trans_new fo (fun b hb => ?_)⟩
  · unfold clF
    by_cases h2 : p < q
    · rw [if_pos (by omega), if_pos (by omega)]
    · rw [if_neg (by omega), if_neg (by omega)]
  · refine (hs.weak (fun b hb => ⟨hb, rfl⟩)).fn (fun k hk => ?_)
    unfold clF
    rw [if_pos (by omega), show (q * 32 + k) % 32 = k by omega]
  · unfold ownN
    rw [if_pos (by have := f1.size; omega)]
    exact h1 b hb
  · by_cases h2 : b < w.heap.size
    · left; show O b ≠ 0; have := h1 b h2; have h3 : O1 b = q + 2 := hb; omega
    · right; omega

set_option maxHeartbeats 1000000 in
theorem pclear_any (s n : Nat) (v : Value) (xs : List Nat) (O : Nat → Nat) (F : Nat → Bool) (d : Int) (w : World) (h : PS w s n v xs O F) :
    Calls Try.prog 44 #[.pointer (some ⟨s, 0, none⟩), .int .i64 d] w fun e w' => e = .returned (.int .i64 (cntA F d n : Nat)) ∧ PN w s n v xs O (clF F d n) w' := by
  obtain ⟨A, cap, hv, hc⟩ := h.form
  have c0 := h.at0
  have hn4 := h.n4
  have h0 : Hid (Cll w s n v xs O F d 0 w) := Lib.hid ⟨O, by
    have : clF F d 0 = F := by funext i; unfold clF; rw [if_neg (by omega)]
    rw [this]; exact h, fun _ _ => rfl, Fo.refl _ _⟩
  rw [hv] at c0
  have HV := Lib.hid hv
  clear h hv
  go_enter Try.func44, Try.ntmps44
  go_wp2_with fail
  go_loopw [5, 15] (fun a i wr => ∃ (q : Nat), q ≤ n ∧ i = .int .i64 q ∧ a = .int .i64 (cntA F d q : Nat) ∧ Hid (Cll w s n v xs O F d q wr)) (fun _ i _ => n - (intOf i).toNat)
  case atStart => exact ⟨0, by omega, rfl, rfl, h0⟩
  case round =>
    clear h0 c0
    obtain ⟨q, hq, rfl, rfl, HC⟩ := hrel
    by_cases hlt : q < n
    · obtain ⟨O1, hps, h1, f1⟩ := HC.out
      obtain ⟨g, cap', e, hc', hgl, hcell⟩ := hps.ptr q hlt
      rw [HV.out] at e
      simp only [Value.slice.injEq] at e
      obtain ⟨rfl, -, -⟩ := e
      have hset := (hps.sets q hlt).fn (G := fun k => F (q * 32 + k)) (fun k hk => by unfold clF; rw [if_neg (by omega)])
      have cC := sclear_set (fun b => O1 b = q + 2) (xs.getD q 0) (fun k => F (q * 32 + k)) d wr hset
      have HPS := Lib.hid hps
      have H1 := Lib.hid h1
      have F1 := Lib.hid f1
      have HCA := Lib.hid (show cntA F d (q + 1) = cntA F d q + cntL (fun k => F (q * 32 + k)) d from rfl)
      have b1 := cntA_le F d q
      have b2 := cntL_le (fun k => F (q * 32 + k)) d
      clear hps h1 f1 hset HC
      obtain ⟨y, hy⟩ : ∃ y, xs.getD q 0 = y := ⟨_, rfl⟩
      rw [hy] at cC hcell
      have HY := Lib.hid hy
      clear hy
      generalize cntL (fun k => F (q * 32 + k)) d = cl at *
      generalize hca : cntA F d q = ca at *
      have HCB := Lib.hid hca
      clear hca
      go_wp2_with fail
      refine cC.mono ?_
      rintro e w1 ⟨rfl, hs, fo⟩
      have HS := Lib.hid hs
      have FO := Lib.hid fo
      clear hs fo cC hcell
      go_wp2_with fail
      go_roundw
      case rel => exact ⟨q + 1, by omega, by go_num, by rw [HCA.out]; go_num, Lib.hid (Cll.step hlt HPS.out H1.out F1.out (by rw [HY.out]; exact HS.out) FO.out)⟩
      case measure => simp [intOf]; omega
    · have e : q = n := by omega
      subst e
      go_wp2_with fail
      go_ret
      exact ⟨rfl, HC.out⟩

theorem pnew_no (n : Int) (w : World) (h : ¬ (1 ≤ n ∧ n ≤ 4)) :
    Calls Try.prog 22 #[.int .i64 n] w fun e w' => e = .returned (.tuple #[.pointer none, .int .i64 1200]) ∧ w = w' := by
  by_cases h1 : n < 1
  · clear h
    go_enter Try.func22, Try.ntmps22
    go_wp2_with fail
    go_ret2
    exact ⟨rfl, rfl⟩
  · have h2 : 4 < n := by omega
    clear h
    go_enter Try.func22, Try.ntmps22
    go_wp2_with fail
    go_ret2
    exact ⟨rfl, rfl⟩

theorem infoPs : (Try.prog.info? 93).map (fun i => (i.zero, i.size, i.bytes)) = some (some (.pointer none), 1, 8) := by kernel_rfl

/-- New's loop: j sets made, nothing waits, all of it new since w. -/
structure Nl (w : World) (s j : Nat) (v : Value) (xs : List Nat) (O : Nat → Nat) (wr : World) : Prop where
  ps : PS wr s j v xs O (fun _ => false)
  new : ∀ b, O b ≠ 0 → w.heap.size ≤ b
  below : Below w.heap.size w wr

/-- Whose a block is when a set has been made at m, m + 1, the row at g. -/
def ownS (O : Nat → Nat) (wr : World) (j g b : Nat) : Nat := if b < wr.heap.size then O b else if b = wr.heap.size ∨ b = wr.heap.size + 1 then j + 2 else if b = g then 1 else 0

theorem Nl.step {w wr w4 : World} {s j g cap : Nat} {v : Value} {xs : List Nat} {O : Nat → Nat} (h : Nl w s j v xs O wr) (hj : j < 4) (hs : w.heap.size ≤ s) (hsl : s < wr.heap.size)
    (own : w4.ownsRow 0 93 1 (.slice (some ⟨g, 0, none⟩) (j + 1) cap) (j + 1) (ptrs xs ++ [.pointer (some ⟨wr.heap.size + 1, 0, none⟩)]))
    (gr : (((wr.alloc (.map #[] 0)).alloc (.cells #[.map (some wr.heap.size), .slice none 0 0] 98)).alloc (.cells #[.pointer (some ⟨wr.heap.size + 1, 0, none⟩)] 93)).grownBy w4 v.ownBlock) (hat : v.ownBlock = some g ∨ g = wr.heap.size + 1 + 1 + 1) (hgl : g < w4.heap.size) :
    Nl w s (j + 1) (.slice (some ⟨g, 0, none⟩) (j + 1) cap) (xs ++ [wr.heap.size + 1]) (ownS O wr j g) (w4.setCell ⟨s, 0, none⟩ (.slice (some ⟨g, 0, none⟩) (j + 1) cap)) := by
  have hsz := gr.size
  simp at hsz
  have hvl : ∀ i, v.ownBlock = some i → i < wr.heap.size := fun i hi => (h.ps.row.lt i hi).2
  have hO : ∀ b, b < wr.heap.size → ownS O wr j g b = O b := fun b hb => by unfold ownS; rw [if_pos hb]
  have st : ∀ b, b < wr.heap.size → v.ownBlock ≠ some b → b ≠ s → (w4.setCell ⟨s, 0, none⟩ (.slice (some ⟨g, 0, none⟩) (j + 1) cap)).heap[b]? = wr.heap[b]? := by
    intro b hb h1 h2
    rw [Below.heap_setCell w4 ⟨s, 0, none⟩ _ b h2, gr.block b (by simp; omega) (fun e => h1 e.symm)]
    rw [Below.heap_alloc _ _ _ (by simp; omega), Below.heap_alloc _ _ _ (by simp; omega), Below.heap_alloc _ _ _ hb]
  have hgs : g ≠ s := by
    intro e
    rcases hat with h1 | h1
    · exact own_apart_blk h.ps.row h.ps.blk (by decide) (by rw [h1, e])
    · omega
  have gs : ∀ b, v.ownBlock = some b → b ≠ s := fun b hb e => own_apart_blk h.ps.row h.ps.blk (by decide) (by rw [hb, e])
  refine ⟨⟨?_, ?_, by simp [h.ps.len], ?_, ?_, ?_, by omega, ?_⟩, ?_, ?_⟩
  · have h1 : Blk w4 s 92 [v] := by
      have h2 : Blk (((wr.alloc (.map #[] 0)).alloc (.cells #[.map (some wr.heap.size), .slice none 0 0] 98)).alloc (.cells #[.pointer (some ⟨wr.heap.size + 1, 0, none⟩)] 93)) s 92 [v] := ((h.ps.blk.alloc _).alloc _).alloc _
      exact h2.grown gr (fun e => gs s e.symm rfl)
    have := h1.set 0 (.slice (some ⟨g, 0, none⟩) (j + 1) cap)
    simpa using this
  · have := own.kept (row := some s) (gone (i := 0) (.slice (some ⟨g, 0, none⟩) (j + 1) cap)) (.inr (by simp [Value.ownBlock]; exact hgs))
    unfold ptrs at this ⊢
    rw [List.map_append]
    exact this
  · rw [hO s hsl]; exact h.ps.os
  · intro i hi
    have e : g = i := by simpa [Value.ownBlock] using hi
    subst e
    rcases hat with h1 | h1
    · rw [hO g (hvl g h1)]; exact h.ps.orow g h1
    · unfold ownS; rw [if_neg (by omega), if_neg (by omega), if_pos rfl]
  · intro p hp
    by_cases e : p = j
    · subst e
      have ex : (xs ++ [wr.heap.size + 1]).getD p 0 = wr.heap.size + 1 := by rw [← h.ps.len]; simp [List.getD]
      rw [ex]
      have far : ∀ b, wr.heap.size ≤ b → b < wr.heap.size + 3 → v.ownBlock ≠ some b := fun b hb _ e => by have := hvl b e; omega
      have bx : Blk (w4.setCell ⟨s, 0, none⟩ (.slice (some ⟨g, 0, none⟩) (p + 1) cap)) (wr.heap.size + 1) 98 [.map (some wr.heap.size), .slice none 0 0] := by
        unfold Blk
        rw [Below.heap_setCell w4 ⟨s, 0, none⟩ _ _ (by show wr.heap.size + 1 ≠ s; omega), gr.block _ (by simp) (fun e => far _ (by omega) (by omega) e.symm)]
        rw [Below.heap_alloc _ _ _ (by simp)]
        have := heap_alloc_new (wr.alloc (.map #[] 0)) (.cells #[.map (some wr.heap.size), .slice none 0 0] 98)
        simpa using this
      have bm : MapB (w4.setCell ⟨s, 0, none⟩ (.slice (some ⟨g, 0, none⟩) (p + 1) cap)) wr.heap.size [] := by
        refine ⟨#[], 0, ?_, by simp [MapO]⟩
        rw [Below.heap_setCell w4 ⟨s, 0, none⟩ _ _ (by show wr.heap.size ≠ s; omega), gr.block _ (by simp; omega) (fun e => far _ (by omega) (by omega) e.symm)]
        rw [Below.heap_alloc _ _ _ (by simp; omega), Below.heap_alloc _ _ _ (by simp)]
        exact heap_alloc_new wr _
      have o1 : ownS O wr p g wr.heap.size = p + 2 := by unfold ownS; rw [if_neg (by omega), if_pos (.inl rfl)]
      have o2 : ownS O wr p g (wr.heap.size + 1) = p + 2 := by unfold ownS; rw [if_neg (by omega), if_pos (.inr rfl)]
      exact ⟨wr.heap.size, .slice none 0 0, [], ⟨⟨bx, ⟨rfl, .inl ⟨rfl, rfl⟩⟩⟩, ⟨[], bm, by simp⟩, fun i hi => by simp [Value.ownBlock] at hi, o2, o1, fun c h0 hc => by simp at hc, by simp, .nil⟩, by simp⟩
    · have hp' : p < j := by omega
      have ex : (xs ++ [wr.heap.size + 1]).getD p 0 = xs.getD p 0 := by
        have := h.ps.len
        simp [List.getD, List.getElem?_append_left (show p < xs.length by omega)]
      rw [ex]
      refine ((h.ps.sets p hp').stay (w' := w4.setCell ⟨s, 0, none⟩ (.slice (some ⟨g, 0, none⟩) (j + 1) cap)) (fun b hb hOb => st b hb (fun e => by have := h.ps.orow b e; have h9 : O b = p + 2 := hOb; omega) (fun e => by subst e; have := h.ps.os; have h9 : O b = p + 2 := hOb; omega))).weak (fun b hb => ?_)
      have h9 : O b = p + 2 := hb
      show ownS O wr j g b = p + 2
      rw [hO b (h.ps.lt b (by omega))]; exact h9
  · intro b hb
    have hsz2 : (w4.setCell ⟨s, 0, none⟩ (.slice (some ⟨g, 0, none⟩) (j + 1) cap)).heap.size = w4.heap.size := by simp [World.setCell]
    rw [hsz2]
    unfold ownS at hb
    by_cases h1 : b < wr.heap.size
    · omega
    · rw [if_neg h1] at hb
      by_cases h2 : b = wr.heap.size ∨ b = wr.heap.size + 1
      · omega
      · rw [if_neg h2] at hb
        by_cases h3 : b = g
        · omega
        · rw [if_neg h3] at hb; exact absurd rfl hb
  · intro b hb
    have hbs := h.below.size
    by_cases h1 : b < wr.heap.size
    · rw [hO b h1] at hb; exact h.new b hb
    · omega
  · have hbs := h.below.size
    have b3 : Below w.heap.size w (((wr.alloc (.map #[] 0)).alloc (.cells #[.map (some wr.heap.size), .slice none 0 0] 98)).alloc (.cells #[.pointer (some ⟨wr.heap.size + 1, 0, none⟩)] 93)) := ((h.below.alloc hbs _).alloc (by simp; omega) _).alloc (by simp; omega) _
    have b4 := b3.grown gr (by simp; omega) (fun i hi => h.new i (by rw [h.ps.orow i hi]; decide))
    exact b4.setCell hs _

set_option maxHeartbeats 1000000 in
theorem pnew_yes (n : Nat) (w : World) (h1 : 1 ≤ n) (h4 : n ≤ 4) :
    Calls Try.prog 22 #[.int .i64 n] w fun e w' => e = .returned (.tuple #[.pointer (some ⟨w.heap.size, 0, none⟩), .int .i64 0]) ∧ ∃ v xs O, Nl w w.heap.size n v xs O w' := by
  have hd1 : decide ((n : Int) < 1) = false := by simp; omega
  have hd2 : decide ((4 : Int) < (n : Int)) = false := by simp; omega
  obtain ⟨i0, hi, hz0, hz1, hz2⟩ := info_parts infoPs
  have HI := Lib.hid hi; have HZ0 := Lib.hid hz0; have HZ1 := Lib.hid hz1; have HZ2 := Lib.hid hz2; clear hi hz0 hz1 hz2
  go_enter Try.func22, Try.ntmps22
  go_wp2_with fail
  change Code.wp _ _ _ _ (w.alloc (.cells [Value.slice none 0 0].toArray 92))
  have n0 : Nl w w.heap.size 0 (.slice none 0 0) [] (fun b => if b = w.heap.size then 1 else 0) (w.alloc (.cells [Value.slice none 0 0].toArray 92)) := by
    refine ⟨⟨Blk.new _ _ _, ⟨rfl, .inl ⟨rfl, rfl⟩⟩, rfl, by simp, fun i hi => by simp [Value.ownBlock] at hi, fun p hp => by omega, by omega, fun b hb => ?_⟩, fun b hb => ?_, (Below.refl _ _).alloc (Nat.le_refl _) _⟩
    · by_cases e : b = w.heap.size
      · subst e; simp
      · simp [e] at hb
    · by_cases e : b = w.heap.size
      · omega
      · simp [e] at hb
  have N0 := Lib.hid n0
  clear n0 hd1 hd2
  have hg : w.heap.size ≤ w.heap.size := Nat.le_refl _
  generalize w.alloc (.cells [Value.slice none 0 0].toArray 92) = wa at *
  generalize hs : w.heap.size = s at *
  have HS := Lib.hid hs
  clear hs hg
  go_loopw [14] (fun i wr => ∃ (j : Nat) (v : Value) (xs : List Nat) (O : Nat → Nat), j ≤ n ∧ i = .int .i64 j ∧ Hid (Nl w s j v xs O wr)) (fun i _ => n - (intOf i).toNat)
  case atStart => exact ⟨0, _, _, _, by omega, rfl, N0⟩
  case round =>
    clear N0
    obtain ⟨j, v, xs, O, hj, rfl, HN⟩ := hrel
    by_cases hlt : j < n
    · obtain ⟨A, cap, hv, hc⟩ := HN.out.ps.form
      subst hv
      have c0 := HN.out.ps.at0
      have f0 := HN.out.ps.blk.frozen 0
      have hsl := HN.out.ps.blk.lt
      have hxl := HN.out.ps.row.1
      have hmk : (Instr.makeMap 94 none).run Try.prog wr = .ok (.map (some wr.heap.size)) (wr.alloc (.map #[] 0)) := rfl
      have hbl : Below wr.heap.size wr (((wr.alloc (.map #[] 0)).alloc (.cells #[.map (some wr.heap.size), .slice none 0 0] 98)).alloc (.cells #[.pointer (some ⟨wr.heap.size + 1, 0, none⟩)] 93)) := (((Below.refl _ _).alloc (Nat.le_refl _) _).alloc (by simp) _).alloc (by simp; omega) _
      have OW := Lib.hid (own_below HN.out.ps.row hbl)
      have XL := Lib.hid hxl
      clear hbl hxl
      go_wp2_with (at_builtin; refine wpList_append_lies _ rfl _ _ 90 rfl 0 93 i0 _ 1 8 Try.underlying90 HI.out HZ0.out HZ1.out HZ2.out rfl (by decide) (.slice A j cap) j (ptrs xs) rfl OW.out ⟨wr.heap.size + 1 + 1, 0, none⟩ 1 1 [.pointer (some ⟨wr.heap.size + 1, 0, none⟩)] rfl rfl (by have := row_new ((wr.alloc (.map #[] 0)).alloc (.cells #[.map (some wr.heap.size), .slice none 0 0] 98)) [.pointer (some ⟨wr.heap.size + 1, 0, none⟩)] 93; simpa using this) (by intro u hu; simp at hu; subst hu; rfl) (by omega) (by unfold maxLen; omega) (by omega) (by omega) _ rfl ?_)
      intro g cap2 w4 own4 gr4 hat4 hgl4
      have hb4 : Blk w4 s 92 [.slice A j cap] := by
        have h2 : Blk (((wr.alloc (.map #[] 0)).alloc (.cells #[.map (some wr.heap.size), .slice none 0 0] 98)).alloc (.cells #[.pointer (some ⟨wr.heap.size + 1, 0, none⟩)] 93)) s 92 [.slice A j cap] := ((HN.out.ps.blk.alloc _).alloc _).alloc _
        exact h2.grown gr4 (fun e => own_apart_blk HN.out.ps.row HN.out.ps.blk (by decide) e.symm)
      have c4 := hb4.cell 0
      have f4 := hb4.frozen 0
      simp only [List.getElem?_cons_zero] at c4
      have N4 := Lib.hid (HN.out.step (by omega) (by have := HS.out; omega) hsl own4 gr4 hat4 hgl4)
      clear c0 f0 own4 gr4 hat4 hgl4 hb4 hmk
      go_wp2_with fail
      go_roundw
      case rel => exact ⟨j + 1, _, _, _, by omega, by go_num, N4⟩
      case measure => simp [intOf]; omega
    · have e : j = n := by omega
      subst e
      go_wp2_with fail
      go_ret2
      exact ⟨by rw [HS.out]; rfl, v, xs, O, by rw [HS.out]; exact HN.out⟩
end Go.Proofs.Ytjmdgjpepogogaa
