/-
  Layer 7's law Iommus: copies of slices of ints as long as any that comes in; the copies of the pools; what stands while they are written over.
-/
import Derived.Test.YtggdbiniklchoaaIoStep
import Derived.Test.YtggdbiniklchoaaIor7
import Derived.Test.YtggdbiniklchoaaInts
namespace Go.Proofs.Ytggdbiniklchoaa
open Go.RowKit
set_option linter.unusedVariables false
set_option linter.unusedSimpArgs false
set_option maxRecDepth 100000

theorem copy_sized (u : Value) (n : Nat) (fs : List Int) (w : World) (h : Sl w u n 1 (ints fs)) (hn : n * 8 ≤ 140737488351232) (hnil : ∀ m c, u = .slice none m c → c = 0) :
    Calls Try.prog 10 #[u] w fun e w' => ∃ u', e = .returned u' ∧ w'.ownsRow w.heap.size 3 1 u' n (ints fs) ∧ Below w.heap.size w w' := by
  obtain ⟨A, cap, rfl, hc, hl, hA⟩ := h
  obtain ⟨i0, hi, hz0, hz1, hz2⟩ := info_parts infoInt
  have HI := Lib.hid hi; have HZ0 := Lib.hid hz0; have HZ1 := Lib.hid hz1; have HZ2 := Lib.hid hz2; have HA := Lib.hid hA
  clear hi hz0 hz1 hz2 hA
  have hmade : (w.alloc (.cells #[] 3)).ownsRow w.heap.size 3 1 (.slice (some ⟨w.heap.size, 0, none⟩) 0 0) 0 [] := World.ownsRow_made w #[] 0 (Nat.le_refl _) (Nat.zero_le _) rfl
  have HM := Lib.hid hmade; clear hmade
  have h1 : ∀ u ∈ ints fs, u.oneCell' = true := by intro u hu; obtain ⟨x, _, rfl⟩ := List.mem_map.1 hu; rfl
  have H1 := Lib.hid h1; clear h1
  have fin : ∀ (v' : Value) (w1 : World), (w.alloc (.cells #[] 3)).grownBy w1 (Value.slice (some ⟨w.heap.size, 0, none⟩) 0 0).ownBlock → Below w.heap.size w w1 := fun v' w1 hg => ((Below.refl _ w).alloc (Nat.le_refl _) _).grown hg (by simp) (by intro k hk; simp [Value.ownBlock] at hk; omega)
  have FIN := Lib.hid fin; clear fin
  by_cases h0 : 0 < n
  · obtain ⟨b, o, rfl, hb, hcell⟩ := HA.out h0
    have HC := Lib.hid hcell; clear hcell
    go_enter Try.func10, Try.ntmps10
    go_wp2_with (at_builtin; refine wpList_append_own _ rfl _ _ 35 rfl w.heap.size 3 i0 _ 1 8 Try.underlying35 HI.out HZ0.out HZ1.out HZ2.out rfl (by decide) _ 0 [] rfl HM.out ⟨b, o, none⟩ n cap (ints fs) rfl hl ?q2 H1.out ?q4 ?q5 ?q6 ?_)
    case q2 =>
      intro j u hj
      rw [add_none]
      exact (Below.cell ((Below.refl _ w).alloc (Nat.le_refl _) _) (p := ⟨b, o + j, none⟩) hb).trans (HC.out j u hj)
    case q4 => unfold maxLen; omega
    case q5 => omega
    case q6 => simp
    intro v' w1 hown hgrow _
    go_wp2
    go_ret
    exact ⟨_, rfl, by simpa using hown, FIN.out v' w1 hgrow⟩
  · obtain rfl : n = 0 := by omega
    have hfs : ints fs = [] := List.length_eq_zero_iff.1 hl
    rw [hfs]
    cases A with
    | none =>
      have hc0 : cap = 0 := hnil 0 cap rfl
      subst hc0
      go_enter Try.func10, Try.ntmps10
      go_wp2_with (at_builtin; refine wpList_append_own_none rfl _ _ 35 rfl w.heap.size 3 i0 1 Try.underlying35 HI.out _ 0 [] rfl HM.out rfl ?_)
      go_wp2
      go_ret
      exact ⟨_, rfl, HM.out, (Below.refl _ w).alloc (Nat.le_refl _) _⟩
    | some ad =>
      go_enter Try.func10, Try.ntmps10
      go_wp2_with (at_builtin; refine wpList_append_own _ rfl _ _ 35 rfl w.heap.size 3 i0 _ 1 8 Try.underlying35 HI.out HZ0.out HZ1.out HZ2.out rfl (by decide) _ 0 [] rfl HM.out ad 0 cap [] rfl rfl (by intro j u hj; simp at hj) (by intro u hu; cases hu) (by unfold maxLen; omega) (by omega) (by simp) ?_)
      intro v' w1 hown hgrow _
      go_wp2
      go_ret
      exact ⟨_, rfl, by simpa using hown, FIN.out v' w1 hgrow⟩


/-- Somebody's pools: a slice of slices of ints. -/
def AP (w : World) (v : Value) (ps : List (List Int)) : Prop :=
  ∃ A cap, v = .slice A ps.length cap ∧ (0 < ps.length → ∃ b o, A = some ⟨b, o, none⟩ ∧ b < w.heap.size ∧ ∀ i, i < ps.length → ∃ A2 cap2, w.cell? ⟨b, o + i, none⟩ = some (.slice A2 (ps.getD i []).length cap2) ∧ Sl w (.slice A2 (ps.getD i []).length cap2) (ps.getD i []).length 1 (ints (ps.getD i [])) ∧ (A2 = none → cap2 = 0))
theorem AP.al {w : World} {v : Value} {ps : List (List Int)} (h : AP w v ps) : AL w v ps := by
  obtain ⟨A, cap, hv, hA⟩ := h
  refine ⟨A, cap, hv, fun h0 => ?_⟩
  obtain ⟨b, o, e, hb, hi⟩ := hA h0
  exact ⟨b, o, e, hb, fun i hi' => by obtain ⟨A2, c2, h1, h2, _⟩ := hi i hi'; exact ⟨A2, c2, h1, h2⟩⟩
theorem AP.below {w w' : World} {v : Value} {ps : List (List Int)} (h : AP w v ps) (hb : Below w.heap.size w w') : AP w' v ps := by
  obtain ⟨A, cap, hv, hA⟩ := h
  refine ⟨A, cap, hv, fun h0 => ?_⟩
  obtain ⟨b, o, e, hlt, hi⟩ := hA h0
  refine ⟨b, o, e, Nat.lt_of_lt_of_le hlt hb.size, fun i hi' => ?_⟩
  obtain ⟨A2, c2, h1, h2, h3⟩ := hi i hi'
  exact ⟨A2, c2, (hb.cell (p := ⟨b, o + i, none⟩) hlt).trans h1, h2.below hb, h3⟩

/-- The rows lie in blocks of their own. -/
def Dis (vs : List Value) : Prop := ∀ (i j : Nat) (u u' : Value) (k : Nat), vs[i]? = some u → vs[j]? = some u' → u.ownBlock = some k → u'.ownBlock = some k → i = j
theorem Dis.snoc {w : World} {B N : Nat} {v u : Value} {vs : List Value} {ps : List (List Int)} {p : List Int} (h : Dis vs) (hp : PLv w B v vs ps) (hN : w.heap.size ≤ N) (hu : ∀ k, u.ownBlock = some k → N ≤ k) : Dis (vs ++ [u]) := by
  have hl : vs.length = ps.length := by have := hp.1.1; omega
  have old : ∀ (i : Nat) (x : Value) (k : Nat), i < vs.length → (vs ++ [u])[i]? = some x → x.ownBlock = some k → k < w.heap.size := by
    intro i x k hi hx hk
    rw [List.getElem?_append_left hi] at hx
    obtain ⟨y, e, ho⟩ := hp.2 i (by omega)
    rw [e] at hx
    obtain rfl := Option.some.inj hx
    exact (ho.lt k hk).2
  have new : ∀ (i : Nat) (x : Value) (k : Nat), ¬ i < vs.length → (vs ++ [u])[i]? = some x → x.ownBlock = some k → N ≤ k ∧ i = vs.length := by
    intro i x k hi hx hk
    have hlt := (List.getElem?_eq_some_iff.1 hx).1
    rw [List.length_append, List.length_singleton] at hlt
    obtain rfl : i = vs.length := by omega
    rw [List.getElem?_append_right (Nat.le_refl _), Nat.sub_self] at hx
    obtain rfl := Option.some.inj hx
    exact ⟨hu k hk, rfl⟩
  intro i j x x' k hi hj hk hk'
  by_cases h1 : i < vs.length
  · by_cases h2 : j < vs.length
    · rw [List.getElem?_append_left h1] at hi
      rw [List.getElem?_append_left h2] at hj
      exact h i j x x' k hi hj hk hk'
    · have := old i x k h1 hi hk
      have := (new j x' k h2 hj hk').1
      omega
  · by_cases h2 : j < vs.length
    · have := old j x' k h2 hj hk'
      have := (new i x k h1 hi hk).1
      omega
    · have := (new i x k h1 hi hk).2
      have := (new j x' k h2 hj hk').2
      omega

/-- Rows from a base on stay where a block below it turns. -/
theorem PL.low {w w' : World} {B q : Nat} {v : Value} {ps : List (List Int)} (h : PL w B v ps) (gr : w.grownBy w' (some q)) (hq : q < B) : PL w' B v ps := by
  obtain ⟨vs, h1, h2⟩ := h
  have st : ∀ {T : TypeId} {n : Nat} {u : Value} {xs : List Value}, w.ownsRow B T 1 u n xs → w'.ownsRow B T 1 u n xs := fun ho => ho.kept gr (.inr (fun e => by have := (ho.lt q e).1; omega))
  exact ⟨vs, st h1, fun i hi => by obtain ⟨u, e, hu⟩ := h2 i hi; exact ⟨u, e, st hu⟩⟩

/-- Both Iommus, and the copies of the pools that are not yet written over. -/
structure Sp (w0 : World) (g x t y r b Bi Br B : Nat) (vx vr u : Value) (vs : List Value) (ps : List (List Int)) (l : List UInt8) (k : Nat) (w : World) : Prop where
  ix : Ix Bi w x g t vx ps l
  cw : Cw w t
  rx : Rx Br w y r b vr ps l
  hb : Below w0.heap.size w0 w
  row : w.ownsRow B 35 1 u ps.length vs
  rows : ∀ i, k ≤ i → i < ps.length → ∃ z, vs[i]? = some z ∧ w.ownsRow B 3 1 z (ps.getD i []).length (ints (ps.getD i []))
  low : ∀ (i : Nat) (z : Value) (q : Nat), vs[i]? = some z → z.ownBlock = some q → q < Bi
  hB : w0.heap.size ≤ B
  hBr : Bi ≤ Br
section
variable {w0 w w' : World} {g x t y r b Bi Br B k : Nat} {vx vr u z : Value} {vs : List Value} {ps : List (List Int)} {l : List UInt8}
theorem Sp.next (h : Sp w0 g x t y r b Bi Br B vx vr u vs ps l k w) (hd : Dis vs) (hk : k < ps.length) (hz : vs[k]? = some z) (hoz : w.ownsRow B 3 1 z (ps.getD k []).length (ints (ps.getD k []))) (gr : w.grownBy w' z.ownBlock) : Sp w0 g x t y r b Bi Br B vx vr u vs ps l (k + 1) w' := by
  cases hq : z.ownBlock with
  | none =>
    rw [hq] at gr
    have hb' : Below w.heap.size w w' := ⟨gr.os, gr.tape, gr.output, gr.size, fun i hi => gr.block i hi (by simp)⟩
    exact ⟨h.ix.below hb' (Nat.le_refl _), h.cw.below hb', h.rx.below hb' (Nat.le_refl _), Below.down h.hb hb' h.hb.size, own_below h.row hb', fun i h1 h2 => by obtain ⟨z', e, ho⟩ := h.rows i (by omega) h2; exact ⟨z', e, own_below ho hb'⟩, h.low, h.hB, h.hBr⟩
  | some q =>
    obtain ⟨cs, hbq⟩ := own_blk hoz hq
    have hqB := (hoz.lt q hq).1
    have hqi := h.low k z q hz hq
    rw [hq] at gr
    obtain ⟨L, ⟨zz, qz, hp⟩, hL⟩ := h.cw
    obtain ⟨m, rs, q1, q2, q3, q4, hg⟩ := h.ix.pm
    have ne : ∀ {k' : Nat} {T : TypeId} {cs' : List Value}, Blk w k' T cs' → T ≠ 3 → some k' ≠ some q := fun hk hT e => hk.apart hbq hT (by injection e)
    have hi := h.ix; have hr := h.rx; have hB := h.hB; have hBr := h.hBr
    exact ⟨⟨hi.sx.grown gr (ne hi.sx (by decide)), hi.pl.low gr hqi, ⟨m, rs, q1, q2, q3, q4, hg.grown gr (ne hg (by decide))⟩, hi.n1, hi.n4, hi.lens, hi.inr⟩, ⟨L, ⟨zz, qz, hp.grown gr (ne hp (by decide))⟩, hL⟩,
      ⟨hr.sx.grown gr (ne hr.sx (by decide)), hr.pl.low gr (by omega), hr.rm.grown gr (ne hr.rm.2.2.1 (by decide)) (ne hr.rm.2.2.2 (by decide)), hr.n1, hr.n4, hr.lens, hr.inr⟩,
      bone h.hb gr h.hb.size (by omega), h.row.kept gr (.inr (own_apart_blk h.row hbq (by decide))), fun i h1 h2 => by
        obtain ⟨z', e, ho⟩ := h.rows i (by omega) h2
        exact ⟨z', e, ho.kept gr (.inr (fun e' => by have := hd i k z' z q e hz e' hq; omega))⟩, h.low, h.hB, h.hBr⟩
/-- A copy's slice, as it is read. -/
theorem Sp.cell (h : Sp w0 g x t y r b Bi Br B vx vr u vs ps l k w) (hk : k < ps.length) (hz : vs[k]? = some z) : ∃ b0 cap, u = .slice (some ⟨b0, 0, none⟩) ps.length cap ∧ w.cell? ⟨b0, k, none⟩ = some z := by
  rcases h.row.2 with ⟨_, e0⟩ | ⟨g0, cap, cur, rfl, _, hg, _, _, _, ht⟩
  · omega
  · refine ⟨g0, cap, rfl, ?_⟩
    rw [cell_of_row w g0 k cur _ (0, 0) hg, ← hz, ← ht, List.getElem?_take, if_pos (by omega)]
    simp
end

end Go.Proofs.Ytggdbiniklchoaa
