/-
  Contracts of package iommu: entryOf, allowed.
-/
import Derived.Test.YtggdbiniklchoaaIopA
import Derived.Test.YtggdbiniklchoaaIoAll
import Derived.Test.YtggdbiniklchoaaWalkAll
import Derived.Test.YtggdbiniklchoaaTlbAll
import Derived.StillTailTactics
import Derived.Deep.RegionWith
import Derived.Deep.CutBlock
import Derived.Deep.DeepCutAuto
namespace Go.Proofs.Ytggdbiniklchoaa
open Go.RowKit
set_option linter.unusedVariables false
set_option maxRecDepth 100000

/-! ### what the cache holds -/
structure Lk (L : List Ln) : Prop where
  len : L.length ≤ 16
  m1 : ∀ e ∈ L, 1 ≤ e.m
theorem Lk.filter {L : List Ln} (h : Lk L) (f : Ln → Bool) : Lk (L.filter f) := ⟨Nat.le_trans (List.length_filter_le _ _) h.len, fun e he => h.m1 e (List.mem_filter.1 he).1⟩
theorem Lk.put {L : List Ln} (h : Lk L) (x : Ln) : Lk (putA 16 L x) := by
  unfold putA
  split
  · rename_i hb
    have hx : 1 ≤ x.m := by unfold tmB at hb; simp only [decide_eq_true_eq] at hb; omega
    refine ⟨(putL_len 16 L x h.len).1, ?_⟩
    unfold putL
    split
    · intro e he
      rcases List.mem_or_eq_of_mem_set he with he | rfl
      · exact h.m1 e he
      · exact hx
    · have hall : ∀ e ∈ L ++ [x], 1 ≤ e.m := by
        intro e he
        rcases List.mem_append.1 he with he | he
        · exact h.m1 e he
        · rw [List.mem_singleton.1 he]; exact hx
      split
      · exact fun e he => hall e (List.mem_of_mem_tail he)
      · exact hall
  · exact h
theorem Lk.nil : Lk [] := ⟨by simp, fun e he => by cases he⟩
theorem Lk.get {L : List Ln} (h : Lk L) (d p : Int) (hb : getB L d p = true) : 1 ≤ getM L d p := by
  rcases idx_cases (isK d p) L with ⟨he, _⟩ | ⟨k, hk, he, _, _⟩
  · rw [(get_none L d p he).2.2] at hb; cases hb
  · rw [(get_some L d p k hk he).2.1]; exact h.m1 _ (List.getElem_mem hk)

/-- Whatever the cache holds. -/
def Cw (w : World) (t : Nat) : Prop := ∃ L, PT w t 16 L.length L ∧ Lk L

/-! ### an entry that stands is the walk's -/
theorem stands_walk (l : List UInt8) (r p f q : Int) (m : Nat) (hm : l.length = 64 * m) (h64 : m ≤ 64) (hr0 : 0 ≤ r) (hr1 : r < m) (hp0 : 0 ≤ p) (hp1 : p < 256) (hq : 1 ≤ q) (h : stB l r p f q = true) : wC l r p = 0 ∧ wF l r p = f ∧ wP l r p = q := by
  have hfr : frs l = m := by unfold frs; omega
  unfold stB at h
  simp only [Bool.and_eq_true, decide_eq_true_eq] at h
  obtain ⟨hB, hf, hE, hW⟩ := h
  rcases lf_cases l r (p / 16) m hm with ⟨_, _, e, _⟩ | ⟨_, _, _, e, _⟩ | ⟨_, _, _, _, e, _⟩ | ⟨_, _, _, _, e1, _, _, e2, e3, e4⟩
  · rw [e] at hB; cases hB
  · rw [e] at hB; cases hB
  · rw [e] at hB; cases hB
  · have hE' : 0 ≤ f ∧ f < 64 ∧ q ≤ 3 := by
      unfold eB at hE
      simp only [decide_eq_true_eq] at hE; omega
    rw [e1, ← e4] at hW
    obtain ⟨s1, s2, s3⟩ := s_entry l _ _ f q hE'.1 hE'.2.1 hf hq hE'.2.2 hW
    rcases w_cases l r p with ⟨h1, _⟩ | ⟨_, h1, _⟩ | ⟨_, _, h1, _⟩ | ⟨_, _, _, h1, h2, h3⟩
    · unfold wOk at h1; simp only [decide_eq_false_iff_not] at h1; exact absurd ⟨hp0, hp1, hr0, by omega⟩ h1
    · exact absurd e2 h1
    · exact absurd e3 h1
    · exact ⟨by rw [h1, s1], by rw [h2, s2], by rw [h3, s3]⟩

theorem walk_two (l : List UInt8) (r p : Int) (m : Nat) (hm : l.length = 64 * m) (hr0 : 0 ≤ r) (hr1 : r < m) (hp0 : 0 ≤ p) (hp1 : p < 256) :
    (wC l r p = 0 ∧ uC l r p = 0 ∧ 1 ≤ wP l r p) ∨ (wC l r p ≠ 0 ∧ wF l r p = 0 ∧ wP l r p = 0 ∧ uC l r p = if wC l r p = 501 then 702 else 704) := by
  have key : wC l r p = 0 ∨ wC l r p = 501 ∨ wC l r p = 502 := by
    have hok : wOk l r p = true := by unfold wOk; exact decide_eq_true (by omega)
    unfold wC
    rw [hok, if_pos rfl]
    have hs : ∀ F k, sC l F k = 0 ∨ sC l F k = 501 ∨ sC l F k = 502 := by intro F k; unfold sC; split <;> (try split) <;> simp
    have := hs r (p / 16)
    have := hs (sF l r (p / 16)) (p % 16)
    split
    · split <;> omega
    · omega
  by_cases h : wC l r p = 0
  · refine .inl ⟨h, by unfold uC; rw [h]; rfl, ?_⟩
    rcases w_cases l r p with ⟨_, h1, _⟩ | ⟨_, h1, h2, _⟩ | ⟨_, _, _, h1, _⟩ | ⟨_, _, _, h1, _, h3⟩
    · omega
    · omega
    · omega
    · rw [h1] at h
      rcases s_cases l (sF l r (p / 16)) (p % 16) m hm with ⟨_, e, _⟩ | ⟨_, _, e, _⟩ | ⟨_, _, _, e, _⟩ | ⟨hg, _, hp, e, _, e3⟩
      · omega
      · omega
      · omega
      · have := g_bounds _ hg
        rw [h3, e3]; omega
  · refine .inr ⟨h, by unfold wF; rw [if_neg h], by unfold wP; rw [if_neg h], ?_⟩
    unfold uC
    rcases key with e | e | e
    · exact absurd e h
    · rw [e]; rfl
    · rw [e]; rfl

section
variable {B : Nat} {w w' : World} {x g t : Nat} {v : Value} {ps : List (List Int)} {l : List UInt8}
theorem Ix.ne_t (h : Ix B w x g t v ps l) {c n : Nat} {L : List Ln} (hp : PT w t c n L) : x ≠ t ∧ g ≠ t := by
  obtain ⟨z, _, hb⟩ := hp
  obtain ⟨m, r, _, _, _, _, hg⟩ := h.pm
  exact ⟨h.sx.apart hb (by decide), hg.apart hb (by decide)⟩
theorem Ix.ne_g (h : Ix B w x g t v ps l) : x ≠ g := by
  obtain ⟨m, r, _, _, _, _, hg⟩ := h.pm
  exact h.sx.apart hg (by decide)
/-- The cache has turned. -/
theorem Ix.turn (h : Ix B w x g t v ps l) {c n : Nat} {L : List Ln} (hp : PT w t c n L) (gr : w.grownBy w' (some t)) : Ix B w' x g t v ps l := by
  obtain ⟨n1, n2⟩ := h.ne_t hp
  obtain ⟨z, _, hb⟩ := hp
  exact ⟨h.sx.grown gr (by simpa using n1), h.pl.grown gr hb (by decide), h.pm.grown gr (by simpa using n2), h.n1, h.n4, h.lens, h.inr⟩
/-- The memory has turned. -/
theorem Ix.mem (h : Ix B w x g t v ps l) {l' : List UInt8} (hp : PM w' g l') (hl : l'.length = l.length) (gr : w.grownBy w' (some g)) : Ix B w' x g t v ps l' := by
  have n1 := h.ne_g
  obtain ⟨m, r, _, _, _, _, hg⟩ := h.pm
  exact ⟨h.sx.grown gr (by simpa using n1), h.pl.grown gr hg (by decide), hp, h.n1, h.n4, h.lens, fun p hp f hf => by have := h.inr p hp f hf; unfold Proofs.Ytggdbiniklchoaa.frs at *; rw [hl]; exact this⟩
theorem Cw.mem (h : Cw w t) (hx : Ix B w x g t v ps l) (gr : w.grownBy w' (some g)) : Cw w' t := by
  obtain ⟨L, hp, hL⟩ := h
  have := (hx.ne_t hp).2
  exact ⟨L, hp.grown gr (by simpa using fun e => this e.symm), hL⟩
theorem Cw.below (h : Cw w t) (hb : Below w.heap.size w w') : Cw w' t := by obtain ⟨L, hp, hL⟩ := h; exact ⟨L, hp.below hb hp.lt, hL⟩
theorem Cw.drewN (h : Cw w t) (n : Nat) : Cw (w.drewN n) t := h
theorem Cw.alloc (h : Cw w t) (o : Obj) : Cw (w.alloc o) t := by obtain ⟨L, hp, hL⟩ := h; exact ⟨L, hp.alloc o, hL⟩
end

/-- All that a call asks of the world while it walks: what was there, the cache, the block of its result; nothing but the cache has turned. -/
structure En (B : Nat) (w0 : World) (x g t h : Nat) (v : Value) (ps : List (List Int)) (l : List UInt8) (L : List Ln) (a b : Int) (w : World) : Prop where
  ix : Ix B w x g t v ps l
  pt : PT w t 16 L.length L
  blk : Blk w h 46 (ints [a, b])
  gr : w0.grownBy w (some t)
  wh : w0.heap.size ≤ h
  tw : t < w0.heap.size
section
variable {B : Nat} {w0 w w' : World} {x g t h : Nat} {v : Value} {ps : List (List Int)} {l : List UInt8} {L L' : List Ln} {a b : Int}
theorem En.drewN (e : En B w0 x g t h v ps l L a b w) (n : Nat) : En B w0 x g t h v ps l L a b (w.drewN n) := ⟨e.ix.drewN n, e.pt.drewN n, e.blk.drewN n, gdrewN e.gr n, e.wh, e.tw⟩
theorem En.drew (e : En B w0 x g t h v ps l L a b w) : En B w0 x g t h v ps l L a b w.drew := e.drewN 1
theorem En.alloc (e : En B w0 x g t h v ps l L a b w) (o : Obj) : En B w0 x g t h v ps l L a b (w.alloc o) := ⟨e.ix.alloc o, e.pt.alloc o, e.blk.alloc o, galloc e.gr o, e.wh, e.tw⟩
theorem En.below (e : En B w0 x g t h v ps l L a b w) (hb : Below w.heap.size w w') : En B w0 x g t h v ps l L a b w' :=
  ⟨e.ix.below hb (Nat.le_refl _), e.pt.below hb e.pt.lt, e.blk.below hb e.blk.lt, gtrans e.gr (gof hb _), e.wh, e.tw⟩
theorem En.turn (e : En B w0 x g t h v ps l L a b w) (hp : PT w' t 16 L'.length L') (gr : w.grownBy w' (some t)) : En B w0 x g t h v ps l L' a b w' :=
  ⟨e.ix.turn e.pt gr, hp, e.blk.grown gr (by have := e.wh; have := e.tw; simp; omega), gtrans e.gr gr, e.wh, e.tw⟩
theorem En.ret (e : En B w0 x g t h v ps l L a b w) : w.cell? ⟨h, 0, none⟩ = some (.int .i64 a) ∧ w.cell? ⟨h, 1, none⟩ = some (.int .i64 b) ∧ w.frozen? ⟨h, 0, none⟩ = false ∧ w.frozen? ⟨h, 1, none⟩ = false ∧ h < w.heap.size :=
  ⟨by rw [e.blk.cell]; rfl, by rw [e.blk.cell]; rfl, e.blk.frozen 0, e.blk.frozen 1, e.blk.lt⟩
theorem En.set (e : En B w0 x g t h v ps l L a b w) (a' b' : Int) : En B w0 x g t h v ps l L a' b' ((w.setCell ⟨h, 0, none⟩ (.int .i64 a')).setCell ⟨h, 1, none⟩ (.int .i64 b')) := by
  have n1 : x ≠ h := e.ix.sx.apart e.blk (by decide)
  have n2 : g ≠ h := by obtain ⟨m, r, _, _, _, _, hg⟩ := e.ix.pm; exact hg.apart e.blk (by decide)
  have n3 : t ≠ h := by obtain ⟨z, _, hb⟩ := e.pt; exact hb.apart e.blk (by decide)
  have gr : w.grownBy ((w.setCell ⟨h, 0, none⟩ (.int .i64 a')).setCell ⟨h, 1, none⟩ (.int .i64 b')) (some h) := gset (gone _) (.inl rfl) _
  refine ⟨⟨(e.ix.sx.far n1 _).far n1 _, e.ix.pl.grown gr e.blk (by decide), (e.ix.pm.far n2 _).far n2 _, e.ix.n1, e.ix.n4, e.ix.lens, e.ix.inr⟩, (e.pt.far n3 _).far n3 _, (e.blk.setInt 0 a').setInt 1 b', gset (gset e.gr (.inr e.wh) _) (.inr e.wh) _, e.wh, e.tw⟩
end

/-- Where a walk has been made: the variables of its entry and of its error. -/
def Mis (B : Nat) (w0 : World) (x g t h : Nat) (v : Value) (ps : List (List Int)) (l : List UInt8) (L : List Ln) (R p : Int) (u10 u11 : Value) (w : World) : Prop :=
  ∃ k, u10 = .pointer (some ⟨k, 0, none⟩) ∧ u11 = .int .i64 (wC l R p) ∧ k ≠ h ∧ w0.heap.size ≤ k ∧ Blk w k 46 (ints [wF l R p, wP l R p]) ∧ En B w0 x g t h v ps l L 0 0 w

section
variable {B : Nat} {w0 w w3 : World} {x g t h : Nat} {v : Value} {ps : List (List Int)} {l : List UInt8} {L : List Ln} {R p : Int}
/-- A block of the call's own is written. -/
theorem En.other {a b : Int} {k : Nat} {cs : List Value} (e : En B w0 x g t h v ps l L a b w) (hk : Blk w k 46 cs) (hkh : k ≠ h) (hw : w0.heap.size ≤ k) (i : Nat) (u : Value) : En B w0 x g t h v ps l L a b (w.setCell ⟨k, i, none⟩ u) := by
  have n1 : x ≠ k := e.ix.sx.apart hk (by decide)
  have n2 : g ≠ k := by obtain ⟨m, r, _, _, _, _, hg⟩ := e.ix.pm; exact hg.apart hk (by decide)
  have n3 : t ≠ k := by obtain ⟨z, _, hb⟩ := e.pt; exact hb.apart hk (by decide)
  exact ⟨⟨e.ix.sx.far n1 _, e.ix.pl.grown (gone u) hk (by decide), e.ix.pm.far n2 _, e.ix.n1, e.ix.n4, e.ix.lens, e.ix.inr⟩, e.pt.far n3 _, e.blk.far (fun e => hkh e.symm) _, gset e.gr (.inr hw) _, e.wh, e.tw⟩
/-- The entry's variable is made behind the walk .. -/
theorem mis_late (hen : En B w0 x g t h v ps l L 0 0 w) (b3 : Below w.drew.heap.size w.drew w3) :
    Mis B w0 x g t h v ps l L R p (.pointer (some ⟨w3.heap.size, 0, none⟩)) (.int .i64 (wC l R p)) (w3.alloc (.cells #[.int .i64 (wF l R p), .int .i64 (wP l R p)] 46)) := by
  have e := hen.drew.below b3
  exact ⟨_, rfl, rfl, by have := e.blk.lt; omega, by have := e.gr.size; omega, Blk.new w3 _ (ints [wF l R p, wP l R p]), e.alloc _⟩
/-- .. or ahead of it. -/
theorem mis_early (hen : En B w0 x g t h v ps l L 0 0 w) (b3 : Below (w.alloc (.cells #[.int .i64 0, .int .i64 0] 46)).drew.heap.size (w.alloc (.cells #[.int .i64 0, .int .i64 0] 46)).drew w3) :
    Mis B w0 x g t h v ps l L R p (.pointer (some ⟨w.heap.size, 0, none⟩)) (.int .i64 (wC l R p)) ((w3.setCell ⟨w.heap.size, 0, none⟩ (.int .i64 (wF l R p))).setCell ⟨w.heap.size, 1, none⟩ (.int .i64 (wP l R p))) := by
  have e := (hen.alloc (.cells #[.int .i64 0, .int .i64 0] 46)).drew.below b3
  have hb0 : Blk (w.alloc (.cells #[.int .i64 0, .int .i64 0] 46)).drew w.heap.size 46 (ints [0, 0]) := (Blk.new w _ (ints [0, 0])).drewN 1
  have hb := hb0.below b3 hb0.lt
  have hn : w.heap.size ≠ h := by have := hen.blk.lt; omega
  have hw : w0.heap.size ≤ w.heap.size := hen.gr.size
  have hb2 := hb.setInt 0 (wF l R p)
  exact ⟨_, rfl, rfl, hn, hw, hb2.setInt 1 (wP l R p), (e.other hb hn hw 0 _).other hb2 hn hw 1 _⟩
end

section
variable {B : Nat} {x g t : Nat} {v : Value} {ps : List (List Int)} {l : List UInt8}
theorem root_still (d R : Int) (w : World) (h : Ix B w x g t v ps l) (h0 : 0 ≤ d) (h1 : d < ps.length) (hR : ioRoot ps d = R) :
    Calls Try.prog 61 #[.pointer (some ⟨x, 0, none⟩), .int .i64 d] w fun e w' => e = .returned (.int .i64 R) ∧ w' = w := by
  subst hR
  exact (root_any d w h h0 h1).mono fun _ _ ⟨a, b⟩ => ⟨a, b.symm⟩

/-- What a lookup answers and leaves. -/
def EnP (B : Nat) (x g t : Nat) (v : Value) (ps : List (List Int)) (l : List UInt8) (w : World) (f m c : Int) (e : Ending) (w' : World) : Prop :=
  e = .returned (.tuple #[.agg #[.int .i64 f, .int .i64 m], .int .i64 c]) ∧ Ix B w' x g t v ps l ∧ Cw w' t ∧ w.grownBy w' (some t)

set_option maxHeartbeats 4000000 in
theorem entryOf_any (d p : Int) (w : World) (h : Ix B w x g t v ps l) (hc : Cw w t) (h0 : 0 ≤ d) (h1 : d < ps.length) (hp0 : 0 ≤ p) (hp1 : p < 256) :
    Calls Try.prog 48 #[.pointer (some ⟨x, 0, none⟩), .int .i64 d, .int .i64 p] w (EnP B x g t v ps l w (wF l (ioRoot ps d) p) (wP l (ioRoot ps d) p) (uC l (ioRoot ps d) p)) := by
  obtain ⟨L, hpt, hL⟩ := hc
  obtain ⟨m, hm1, hm2, hm, hf⟩ := h.frs
  obtain ⟨_, _, _, hr0, hr1⟩ := h.pool h0 h1
  have htl := hpt.lt
  have hen : En B w x g t w.heap.size v ps l L 0 0 (w.alloc (.cells (ints [0, 0]).toArray 46)) := ⟨h.alloc _, hpt.alloc _, Blk.new _ _ _, World.grownBy_alloc w _ _, Nat.le_refl _, htl⟩
  have hst := fun f q hq => stands_walk l (ioRoot ps d) p f q m hm hm2 hr0 (by omega) hp0 hp1 hq
  have hwk := walk_two l (ioRoot ps d) p m hm hr0 (by omega) hp0 hp1
  have K0 := fun f q W hW => stands_any (B := B) (x := x) (g := g) (t := t) (v := v) (ps := ps) (l := l) d p f q W hW h0 h1 hp0 hp1
  have K1 := fun W hW => root_still (B := B) (x := x) (g := g) (t := t) (v := v) (ps := ps) (l := l) d (ioRoot ps d) W hW h0 h1 rfl
  have HGM := hL.get d p
  obtain ⟨cx0, cx1, cx2⟩ := (h.alloc (.cells #[.int .i64 0, .int .i64 0] 46)).cells
  generalize ioRoot ps d = R at *
  have HST := Lib.hid hst; have HWK := Lib.hid hwk; have HK0 := Lib.hid K0; have HK1 := Lib.hid K1
  clear hst hwk K0 K1 h hpt hm hf hr0 hr1
  go_enter Try.func48, Try.ntmps48
  go_wp2_with fail
  change Calls _ _ _ (w.alloc (.cells (ints [0, 0]).toArray 46)) _
  generalize w.alloc (.cells (ints [0, 0]).toArray 46) = w1 at *
  generalize hh : w.heap.size = h at *
  have HH := Lib.hid hh; clear hh
  refine (pget_any t 16 L d p _ hen.pt).mono ?_
  rintro e w2 ⟨rfl, b1⟩
  generalize hF : getF L d p = F at *
  generalize hM : getM L d p = M at *
  have HF := Lib.hid hF; have HM := Lib.hid hM; clear hF hM
  replace hen := hen.below b1
  clear b1 cx0 cx1 cx2
  go_upto_region 2 with fail
  replace hen := hen.alloc (.cells #[.int .i64 F, .int .i64 M] 46)
  have hblk := Blk.new w2 46 [.int .i64 F, .int .i64 M]
  obtain ⟨e0, e1, _, _⟩ := two_at hblk
  go_cut [29] from 9 (fun u29 wx => u29 = .bool (getB L d p && stB l R p F M) ∧ wx.cell? ⟨w2.heap.size, 0, none⟩ = some (.int .i64 F) ∧ wx.cell? ⟨w2.heap.size, 1, none⟩ = some (.int .i64 M) ∧ En B w x g t h v ps l L 0 0 wx)
  case first =>
    change Blk (w2.alloc (.cells #[.int .i64 F, .int .i64 M] 46)) _ _ _ at hblk
    generalize w2.alloc (.cells #[.int .i64 F, .int .i64 M] 46) = wm at *
    cases hgb : getB L d p with
    | false =>
      have HGB := Lib.hid hgb; clear hgb
      go_wp2_with fail
      go_meet
      case rel => exact ⟨by first | rfl | (rw [HGB.out]; rfl), e0, e1, hen⟩
    | true =>
      have HGB := Lib.hid hgb; clear hgb
      go_wp2_with fail
      refine (HK0.out F M _ hen.ix).mono ?_
      rintro e w3 ⟨rfl, b3⟩
      replace hen := hen.below b3
      replace e0 := ((bcell b3).1 _ 0 hblk.lt).trans e0
      replace e1 := ((bcell b3).1 _ 1 hblk.lt).trans e1
      go_wp2_with fail
      go_meet
      case rel => exact ⟨by first | rfl | (rw [HGB.out]; rfl), e0, e1, hen⟩
  case rest =>
    clear hen hblk e0 e1
    obtain ⟨rfl, e0, e1, hen⟩ := hcut
    generalize wc = wm at *
    cases hb : (getB L d p && stB l R p F M) with
    | true =>
      rw [Bool.and_eq_true] at hb
      have hM1 := HGM hb.1
      obtain ⟨s1, s2, s3⟩ := HST.out F M hM1 hb.2
      have hu : uC l R p = 0 := by unfold uC; rw [s1]; rfl
      have S2 := Lib.hid s2; have S3 := Lib.hid s3; have HU := Lib.hid hu
      clear hb s1 s2 s3 hu
      obtain ⟨v0, v1, f0, f1, hhl⟩ := hen.ret
      go_wp2_with fail
      replace hen := hen.set F M
      obtain ⟨r0, r1, _⟩ := hen.ret
      rw [S2.out, S3.out, HU.out]
      exact bodyPost_ret (v := .tuple #[.agg #[.int .i64 F, .int .i64 M], .int .i64 0]) (by simp [results, Try.results48, go_sem, r0, r1]) rfl ⟨rfl, hen.ix, ⟨L, hen.pt, hL⟩, hen.gr⟩
    | false =>
      clear hb e0 e1
      go_upto_region 4 with fail
      obtain ⟨cx0, cx1, cx2⟩ := hen.ix.cells
      obtain ⟨ca0, ca1, ca2⟩ := (hen.alloc (.cells #[.int .i64 0, .int .i64 0] 46)).ix.cells
      go_cut [10, 11] from 12 (fun u10 u11 wx => Mis B w x g t h v ps l L R p u10 u11 wx)
      case first =>
        go_region_with (first
          | (go_at_call 61; refine (HK1.out _ ?_).mono ?_; (first | exact hen.drew.ix | exact (hen.drew.alloc _).ix | exact (hen.alloc _).drew.ix); (rintro e w' ⟨rfl, rfl⟩))
          | (go_at_call 70; refine (walk_any g l R p _ ?_).mono ?_; (first | exact hen.drew.ix.pm | exact (hen.drew.alloc _).ix.pm | exact (hen.alloc _).drew.ix.pm); (rintro e w3 ⟨rfl, b3⟩; (first | (obtain ⟨k0, k1, k2, k3⟩ := two_at (Blk.below ((Blk.new wm 46 [.int .i64 0, .int .i64 0]).drewN 1) b3 (Blk.lt ((Blk.new wm 46 [.int .i64 0, .int .i64 0]).drewN 1)))) | skip))))
        all_goals
          go_wp2_with fail
          go_meet
          case rel =>
            first
              | exact mis_late hen b3
              | exact mis_early hen b3
      case rest =>
        clear cx0 cx1 cx2 ca0 ca1 ca2
        obtain ⟨k, rfl, rfl, hkh, hwk, hkb, hen⟩ := hcut
        generalize wc = w3 at *
        generalize hA : wF l R p = A at *
        generalize hQ : wP l R p = Q at *
        generalize hC : wC l R p = C at *
        have HA := Lib.hid hA; have HQ := Lib.hid hQ; have HC := Lib.hid hC; clear hA hQ hC
        have hkt : k ≠ t := by have := hen.tw; omega
        have hwh := hen.wh
        rcases HWK.out with ⟨hc, hu, _⟩ | ⟨hc, hz1, hz2, hu⟩
        · subst hc
          have HU := Lib.hid hu; clear hu
          obtain ⟨k0, k1, _, _⟩ := two_at hkb
          obtain ⟨cx0, cx1, cx2⟩ := hen.ix.cells
          go_wp2_with fail
          go_still_tail 7, (by kernel_rfl)
          change wpList _ _ _ _ _ w3.drew
          replace hen := hen.drew
          replace hkb := hkb.drewN 1
          clear k0 k1 cx0 cx1 cx2
          change Blk w3.drew _ _ _ at hkb
          generalize w3.drew = wd at *
          go_wp2_with fail
          refine (pput_any t 16 L d p A Q _ hen.pt (by omega) (by omega) hL.len).mono ?_
          rintro e w4 ⟨rfl, hpt4, gr4⟩
          replace hen := hen.turn hpt4 gr4
          replace hkb := hkb.grown gr4 (by simpa using hkt)
          replace hL := hL.put ⟨d, p, A, Q⟩
          clear hpt4 gr4
          generalize putA 16 L ⟨d, p, A, Q⟩ = L4 at *
          obtain ⟨k0, k1, _, _⟩ := two_at hkb
          obtain ⟨v0, v1, f0, f1, hhl⟩ := hen.ret
          go_wp2_with fail
          replace hen := hen.set A Q
          obtain ⟨r0, r1, _⟩ := hen.ret
          rw [HU.out]
          exact bodyPost_ret (v := .tuple #[.agg #[.int .i64 A, .int .i64 Q], .int .i64 0]) (by simp [results, Try.results48, go_sem, r0, r1]) rfl ⟨rfl, hen.ix, ⟨L4, hen.pt, hL⟩, hen.gr⟩
        · have hc1 : (C == 0) = false := by simpa using hc
          have hc2 : (C != 0) = true := by simpa using hc
          have hc3 : decide (C = 0) = false := decide_eq_false hc
          have HU := Lib.hid hu; clear hu hc
          subst hz1 hz2
          obtain ⟨cx0, cx1, cx2⟩ := hen.ix.cells
          go_wp2_with fail
          refine (pdrop_any t 16 L d p _ hen.pt).mono ?_
          rintro e w4 ⟨rfl, hpt4, gr4⟩
          replace hen := hen.turn hpt4 gr4
          replace hL := hL.filter (fun x => !isK d p x)
          clear hpt4 gr4 cx0 cx1 cx2
          generalize (L.filter fun x => !isK d p x) = L4 at *
          obtain ⟨v0, v1, f0, f1, hhl⟩ := hen.ret
          go_wp2_with fail
          refine (errorOf_any C _).mono ?_
          rintro e w5 ⟨rfl, rfl⟩
          rw [← HU.out]
          generalize uC l R p = U at *
          go_wp2_with fail
          replace hen := hen.set 0 0
          obtain ⟨r0, r1, _⟩ := hen.ret
          exact bodyPost_ret (v := .tuple #[.agg #[.int .i64 0, .int .i64 0], .int .i64 U]) (by simp [results, Try.results48, go_sem, r0, r1]) rfl ⟨rfl, hen.ix, ⟨L4, hen.pt, hL⟩, hen.gr⟩

end
end Go.Proofs.Ytggdbiniklchoaa
