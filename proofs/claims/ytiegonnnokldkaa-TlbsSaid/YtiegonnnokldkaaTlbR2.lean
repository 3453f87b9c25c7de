/-
  Contracts of the document's cache: Get, Drop, DropAll.
-/
import Derived.Test.YtiegonnnokldkaaTlbR1
import Derived.Deep.AppendLies
namespace Go.Proofs.Ytiegonnnokldkaa
open Go.RowKit
set_option linter.unusedVariables false

theorem RT.alloc {w : World} {B r c : Nat} {v : Value} {l : List Ln} (h : RT w B r c v l) (o : Obj) : RT (w.alloc o) B r c v l := h.below ((Below.refl _ _).alloc (Nat.le_refl _) o)

set_option maxRecDepth 100000 in
theorem rget_any (B r c : Nat) (v : Value) (l : List Ln) (d p : Int) (w : World) (h : RT w B r c v l) :
    Calls Try.prog 18 #[.pointer (some ⟨r, 0, none⟩), .int .i64 d, .int .i64 p] w fun e w' => e = .returned (.tuple #[.agg #[.int .i64 (getF l d p), .int .i64 (getM l d p)], .bool (getB l d p)]) ∧ Below w.heap.size w w' := by
  have hlen := h.len
  have H := Lib.hid h; clear h
  go_enter Try.func18, Try.ntmps18
  go_wp2_with fail
  change Calls _ _ _ (w.alloc (.cells (ints [0, 0]).toArray 33)) _
  have hv : Blk (w.alloc (.cells (ints [0, 0]).toArray 33)) w.heap.size 33 (ints [0, 0]) := Blk.new _ _ _
  have hwv : Below w.heap.size w (w.alloc (.cells (ints [0, 0]).toArray 33)) := (Below.refl _ _).alloc (Nat.le_refl _) _
  generalize w.alloc (.cells (ints [0, 0]).toArray 33) = wv at *
  have hrt := H.out.below hwv
  generalize hh : w.heap.size = h at *
  have HH := Lib.hid hh; clear hh
  refine (rat_any B r c v l d p _ hrt).mono ?_
  rintro e w1 ⟨rfl, rfl⟩
  have v0 : wv.cell? ⟨h, 0, none⟩ = some (.int .i64 0) := by rw [hv.cell]; rfl
  have v1 : wv.cell? ⟨h, 1, none⟩ = some (.int .i64 0) := by rw [hv.cell]; rfl
  have f0 := hv.frozen 0
  have f1 := hv.frozen 1
  have hhl := hv.lt
  rcases idx_cases (isK d p) l with ⟨he, _⟩ | ⟨k, hk, he, _, _⟩
  · rw [he]
    have HG := Lib.hid (get_none l d p he); clear he
    go_wp2_with fail
    have hv2 := (hv.setInt 0 0).setInt 1 0
    have r0 := hv2.cell 0
    have r1 := hv2.cell 1
    simp only [ints, List.map_cons, List.set_cons_zero, List.set_cons_succ, List.getElem?_cons_zero, List.getElem?_cons_succ] at r0 r1
    have hb2 := (hwv.setCell (p := ⟨h, 0, none⟩) (Nat.le_refl _) (.int .i64 0)).setCell (p := ⟨h, 1, none⟩) (Nat.le_refl _) (.int .i64 0)
    rw [HG.out.1, HG.out.2.1, HG.out.2.2, HH.out]
    exact bodyPost_ret (v := .tuple #[.agg #[.int .i64 0, .int .i64 0], .bool false]) (by simp [results, Try.results18, go_sem, r0, r1]) rfl ⟨rfl, hb2⟩
  · rw [he]
    obtain ⟨g1, g2, g3⟩ := get_some l d p k hk he
    have hc := hrt.cell1
    obtain ⟨b, cap, rfl, hbr, hcap, c0, c1, c2, c3⟩ := hrt.at_ k hk
    generalize l[k] = x at *
    have G1 := Lib.hid g1; have G2 := Lib.hid g2; have G3 := Lib.hid g3; clear g1 g2 g3 he c0 c1
    have hdk : decide ((k : Int) < 0) = false := by simp
    go_wp2_with fail
    have hv2 := (hv.setInt 0 x.f).setInt 1 x.m
    have r0 := hv2.cell 0
    have r1 := hv2.cell 1
    simp only [ints, List.map_cons, List.set_cons_zero, List.set_cons_succ, List.getElem?_cons_zero, List.getElem?_cons_succ] at r0 r1
    have hb2 := (hwv.setCell (p := ⟨h, 0, none⟩) (Nat.le_refl _) (.int .i64 x.f)).setCell (p := ⟨h, 1, none⟩) (Nat.le_refl _) (.int .i64 x.m)
    rw [G1.out, G2.out, G3.out, HH.out]
    exact bodyPost_ret (v := .tuple #[.agg #[.int .i64 x.f, .int .i64 x.m], .bool true]) (by simp [results, Try.results18, go_sem, r0, r1]) rfl ⟨rfl, hb2⟩

theorem infoRln : (Try.prog.info? 68).map (fun i => (i.zero, i.size, i.bytes)) = some (some (.agg #[.int .i64 0, .int .i64 0, .int .i64 0, .int .i64 0]), 4, 32) := by kernel_rfl

/-- What a call of the document's cache may turn: block r, the row's block, and what is new. -/
structure Fr (r : Nat) (row : Option Nat) (w w' : World) : Prop where
  os : w'.os = w.os
  tape : w'.tape = w.tape
  output : w'.output = w.output
  size : w.heap.size ≤ w'.heap.size
  block : ∀ k, k < w.heap.size → k ≠ r → some k ≠ row → w'.heap[k]? = w.heap[k]?

section
variable {r : Nat} {row : Option Nat} {a b c : World}
theorem Fr.refl (r : Nat) (row : Option Nat) (w : World) : Fr r row w w := ⟨rfl, rfl, rfl, Nat.le_refl _, fun _ _ _ _ => rfl⟩
theorem Fr.of (h : Below a.heap.size a b) (r : Nat) (row : Option Nat) : Fr r row a b := ⟨h.os, h.tape, h.output, h.size, fun i hi _ _ => h.block i hi⟩
theorem Fr.grown {row' : Option Nat} (h : Fr r row a b) (g : b.grownBy c row') (hr : ∀ k, row' = some k → a.heap.size ≤ k ∨ k = r ∨ some k = row) : Fr r row a c :=
  ⟨g.os.trans h.os, g.tape.trans h.tape, g.output.trans h.output, Nat.le_trans h.size g.size, fun i hi hn hw => (g.block i (Nat.lt_of_lt_of_le hi h.size) (fun e => by
    rcases hr i e.symm with h1 | h1 | h1
    · omega
    · exact hn h1
    · exact hw h1)).trans (h.block i hi hn hw)⟩
theorem Fr.alloc (h : Fr r row a b) (o : Obj) : Fr r row a (b.alloc o) := h.grown (World.grownBy_alloc b o none) (fun k e => by cases e)
theorem Fr.set (h : Fr r row a b) {p : Addr} (hp : a.heap.size ≤ p.block ∨ p.block = r ∨ some p.block = row) (u : Value) : Fr r row a (b.setCell p u) :=
  ⟨h.os, h.tape, h.output, by simpa [World.setCell] using h.size, fun i hi hn hw => (Below.heap_setCell b p u i (by
    intro e; subst e
    rcases hp with h1 | h1 | h1
    · omega
    · exact hn h1
    · exact hw h1)).trans (h.block i hi hn hw)⟩
theorem Fr.blk {g : Nat} {t : TypeId} {cs : List Value} (h : Fr r row a b) (hg : Blk a g t cs) (h2 : g ≠ r) (h3 : some g ≠ row) : Blk b g t cs := (h.block g hg.lt h2 h3).trans hg
theorem Fr.below {N : Nat} (h : Fr r row b c) (hb : Below N a b) (hN : N ≤ b.heap.size) (h2 : N ≤ r) (h3 : ∀ k, row = some k → N ≤ k) : Below N a c :=
  ⟨h.os.trans hb.os, h.tape.trans hb.tape, h.output.trans hb.output, Nat.le_trans hb.size h.size, fun k hk => (h.block k (by omega) (by omega) (fun e => by have := h3 k e.symm; omega)).trans (hb.block k hk)⟩
theorem Fr.drewN (h : Fr r row a b) (n : Nat) : Fr r row a (b.drewN n) := ⟨h.os, h.tape, h.output, h.size, h.block⟩
end

/-- The document's row from the k-th line on. -/
theorem rsl_from (b len cap k : Nat) (hk : k ≤ len) (hc : len ≤ cap) (h17 : len ≤ 17) : ∃ o, (len - k = 0 ∨ o = k * 4) ∧ ∀ w, (Instr.slice 55 (.slice (some ⟨b, 0, none⟩) len cap) (some (.int .i64 (k : Int))) none none).run Try.prog w = .ok (.slice (some ⟨b, o, none⟩) (len - k) (cap - k)) w := by
  obtain ⟨i0, hi, _, hz1, _⟩ := info_parts infoRln
  have he : Try.prog.elem 55 = 68 := by kernel_rfl
  have hz : ∀ w, (Go.sizeOf 68).run Try.prog w = .ok 4 w := by intro w; simp [Go.sizeOf, typeInfo, hi, hz1]
  have key := fun w => run_slice_l w 55 (some ⟨b, 0, none⟩) len cap (by rw [he]; exact Try.underlying55) .i64 (k : Int) (by omega) (by omega)
  by_cases h : cap = k
  · exact ⟨0, .inl (by omega), fun w => by rw [key, he, hz]; simp [Result.andThen, sliced, h]⟩
  · exact ⟨k * 4, .inr rfl, fun w => by rw [key, he, hz]; simp [Result.andThen, sliced, h, add_none]⟩

theorem ints_take (l : List Int) (k : Nat) : (ints l).take k = ints (l.take k) := by simp [ints]
theorem lns_take' (l : List Ln) (k : Nat) (h : k ≤ l.length) : (lns l).take (k * 4) = lns (l.take k) := by have := lns_take l [] k h; simpa using this
theorem lns_drop' (l : List Ln) (k : Nat) (h : k ≤ l.length) : (lns l).drop (k * 4) = lns (l.drop k) := by have := lns_drop l [] k h; simpa using this

/-- The row's cells. -/
theorem RT.cells {w : World} {B r c b n cap : Nat} {l : List Ln} (h : RT w B r c (.slice (some ⟨b, 0, none⟩) n cap) l) : ∀ j u, (ints (lns l))[j]? = some u → w.cell? ⟨b, j, none⟩ = some u := by
  intro j u hu
  have := h.own.cells (g := b) rfl j u hu
  rwa [add_none, Nat.zero_add] at this
theorem RT.news_take {w : World} {B r c b n cap : Nat} {l : List Ln} (h : RT w B r c (.slice (some ⟨b, 0, none⟩) n cap) l) (k : Nat) (hk : k ≤ l.length) : ∀ j u, (ints (lns (l.take k)))[j]? = some u → w.cell? ((⟨b, 0, none⟩ : Addr).add j) = some u := by
  intro j u hu
  rw [add_none, Nat.zero_add]
  rw [← lns_take' l k hk, ← ints_take, List.getElem?_take] at hu
  split at hu
  · exact h.cells j u hu
  · cases hu
theorem RT.news_drop {w : World} {B r c b n cap o : Nat} {l : List Ln} (h : RT w B r c (.slice (some ⟨b, 0, none⟩) n cap) l) (k : Nat) (hk : k ≤ l.length) (ho : l.length - k = 0 ∨ o = k * 4) : ∀ j u, (ints (lns (l.drop k)))[j]? = some u → w.cell? ((⟨b, o, none⟩ : Addr).add j) = some u := by
  intro j u hu
  rw [add_none]
  have hj : j < (ints (lns (l.drop k))).length := (List.getElem?_eq_some_iff.1 hu).1
  rw [ints_len, lns_len, List.length_drop] at hj
  obtain rfl : o = k * 4 := by omega
  apply h.cells
  rw [← lns_drop' l k hk] at hu
  simpa [ints, List.getElem?_drop] using hu

theorem own_lower {w : World} {base base' : Nat} {e : TypeId} {size : Nat} {v : Value} {n : Nat} {xs : List Value} (h : w.ownsRow base e size v n xs) (hb : base' ≤ base) : w.ownsRow base' e size v n xs := by
  obtain ⟨h1, h2⟩ := h
  refine ⟨h1, ?_⟩
  rcases h2 with h2 | ⟨g, cap, cur, e, hbb, rest⟩
  · exact .inl h2
  · exact .inr ⟨g, cap, cur, e, Nat.le_trans hb hbb, rest⟩

/-- Another row written into the block. -/
theorem RT.row_ {w : World} {B r c : Nat} {v v2 : Value} {l : List Ln} (hb : Blk w r 57 [.int .i64 c, v]) (own : w.ownsRow B 68 4 v2 l.length (ints (lns l))) (hl : l.length ≤ 17) : RT (w.setCell ⟨r, 1, none⟩ v2) B r c v2 l :=
  ⟨hl, hb.set 1 v2, own.kept (gone (i := 1) v2) (.inr (own_apart_blk own hb (by decide)))⟩

/-- What a Drop leaves. -/
def dropL (l : List Ln) (d p : Int) : List Ln := if 0 ≤ idx (isK d p) l then l.eraseIdx (idx (isK d p) l).toNat else l

set_option maxRecDepth 100000 in
theorem rdrop_any (B r c : Nat) (v : Value) (l : List Ln) (d p : Int) (w : World) (h : RT w B r c v l) (hB : B ≤ w.heap.size) :
    Calls Try.prog 14 #[.pointer (some ⟨r, 0, none⟩), .int .i64 d, .int .i64 p] w fun e w' => e = .returned (.bool (getB l d p)) ∧ (∃ v', RT w' B r c v' (dropL l d p)) ∧ Fr r v.ownBlock w w' := by
  have hlen := h.len
  have H := Lib.hid h; clear h
  rcases idx_cases (isK d p) l with ⟨he, _⟩ | ⟨k, hk, he, _, _⟩
  · have HE := Lib.hid he
    have HD : Hid (dropL l d p = l) := Lib.hid (by simp [dropL, he])
    have HG := Lib.hid (get_none l d p he); clear he
    go_enter Try.func14, Try.ntmps14
    go_wp2_with fail
    refine (rat_any B r c v l d p _ H.out).mono ?_
    rintro e w1 ⟨rfl, rfl⟩
    rw [HE.out]
    go_wp2_with fail
    go_ret
    rw [HG.out.2.2, HD.out]
    exact ⟨rfl, ⟨v, H.out⟩, Fr.refl _ _ _⟩
  · have HE := Lib.hid he
    have HD : Hid (dropL l d p = l.take k ++ l.drop (k + 1)) := Lib.hid (by simp [dropL, he, List.eraseIdx_eq_take_drop_succ])
    have HG := Lib.hid (get_some l d p k hk he).2.2; clear he
    have hdk : decide ((k : Int) < 0) = false := by simp
    obtain ⟨b, cap, rfl, hbr, hcap, _⟩ := H.out.at_ k hk
    have hc := H.out.cell1
    have hrl := H.out.blk.lt
    have hbl := (H.out.own.lt b rfl).2
    obtain ⟨i0, hi, hz0, hz1, hz2⟩ := info_parts infoRln
    have HI := Lib.hid hi; have HZ0 := Lib.hid hz0; have HZ1 := Lib.hid hz1; have HZ2 := Lib.hid hz2; clear hi hz0 hz1 hz2
    have H1 : Hid (RT (w.alloc (.cells #[] 68)) B r c (.slice (some ⟨b, 0, none⟩) l.length cap) l) := Lib.hid (H.out.alloc _)
    obtain ⟨m, hm⟩ : ∃ m, m = l.length := ⟨_, rfl⟩
    have HN : Hid ((ints (lns (l.take k))).length = k * 4) := Lib.hid (by rw [ints_len, lns_len, List.length_take, Nat.min_eq_left (by omega)])
    rw [← hm] at hlen hk hcap hc
    have HM := Lib.hid hm; clear hm
    go_enter Try.func14, Try.ntmps14
    go_wp2_with fail
    have hat := rat_any B r c _ l d p _ H.out
    rw [HE.out] at hat
    refine hat.mono ?_
    clear hat
    rintro e w1 ⟨rfl, rfl⟩
    go_wp2_with (at_builtin; refine wpList_append_own _ rfl _ _ 55 rfl w.heap.size 68 i0 _ 4 32 Try.underlying55 HI.out HZ0.out HZ1.out HZ2.out rfl (by decide) _ 0 [] rfl (World.ownsRow_made w #[] 0 (Nat.le_refl _) (by decide) rfl) ⟨b, 0, none⟩ k _ (ints (lns (l.take k))) rfl HN.out (H1.out.news_take k (by have := HM.out; omega)) (ints_one _) (by unfold maxLen; omega) (by omega) (by simp <;> omega) ?_)
    intro v1 w2 own1 gr1 _
    have h2 := H1.out.grown gr1 (by intro e; simp [Value.ownBlock] at e; omega) (.inr (by intro e; simp [Value.ownBlock] at e; omega))
    have fr2 := ((Fr.refl r (Value.slice (some ⟨b, 0, none⟩) l.length cap).ownBlock w).alloc (.cells #[] 68)).grown gr1 (by intro i hi; simp [Value.ownBlock] at hi; omega)
    have hs2 : w.heap.size + 1 ≤ w2.heap.size := by have := gr1.size; simpa using this
    have hc2 := h2.cell1
    rw [← HM.out] at hc2
    obtain ⟨o, ho, hsl⟩ := rsl_from b m cap (k + 1) (by omega) hcap hlen
    rw [show ((k + 1 : Nat) : Int) = (k : Int) + 1 by omega] at hsl
    have HN2 : Hid ((ints (lns (l.drop (k + 1)))).length = (m - (k + 1)) * 4) := Lib.hid (by rw [ints_len, lns_len, List.length_drop, HM.out])
    obtain ⟨A1, c1, hv1, _⟩ := Sl.own own1
    subst hv1
    clear gr1
    go_wp2_with (at_builtin; refine wpList_append_own _ rfl _ _ 55 rfl w.heap.size 68 i0 _ 4 32 Try.underlying55 HI.out HZ0.out HZ1.out HZ2.out rfl (by decide) _ k _ rfl own1 ⟨b, o, none⟩ (m - (k + 1)) _ (ints (lns (l.drop (k + 1)))) rfl HN2.out (h2.news_drop (k + 1) (by have := HM.out; omega) (by rw [← HM.out]; exact ho)) (ints_one _) (by unfold maxLen; omega) (by omega) (by omega) ?_)
    intro v2 w3 own2 gr2 _
    have own1lt := own1.lt
    have hne1 : some r ≠ (Value.slice A1 k c1).ownBlock := fun e => own_apart_blk own1 h2.blk (by decide) e.symm
    have hb3 := h2.blk.grown gr2 hne1
    have fr3 := fr2.grown gr2 (fun i hi => .inl (own1lt i hi).1)
    obtain ⟨A2, c2, hv2, _⟩ := Sl.own own2
    subst hv2
    have hl2 : k + (m - (k + 1)) = (l.take k ++ l.drop (k + 1)).length := by rw [List.length_append, List.length_take, List.length_drop, ← HM.out]; omega
    have e2 : ints (lns (l.take k)) ++ ints (lns (l.drop (k + 1))) = ints (lns (l.take k ++ l.drop (k + 1))) := by rw [lns_append, ints_append]
    rw [e2] at own2
    have own3 := own2
    rw [hl2] at own3
    have h4 := RT.row_ hb3 (own_lower own3 hB) (by rw [← hl2]; omega)
    have fr4 := fr3.set (p := ⟨r, 1, none⟩) (.inr (.inl rfl)) (.slice A2 (k + (m - (k + 1))) c2)
    have hc3 : w3.cell? ⟨r, 1, none⟩ = some (.slice (some ⟨b, 0, none⟩) l.length cap) := by rw [hb3.cell]; rfl
    have hf3 := hb3.frozen 1
    rw [← hl2] at h4
    have H4 := Lib.hid h4
    clear own1 own2 own3 gr2 hb3 hne1 own1lt fr2 fr3 h2 hc2 hsl HN2 e2 hl2 h4
    generalize k + (m - (k + 1)) = K at *
    go_wp2_with fail
    go_ret
    rw [HG.out, HD.out]
    exact ⟨rfl, ⟨_, H4.out⟩, fr4⟩

set_option maxRecDepth 100000 in
theorem rall_any (B r c : Nat) (v : Value) (l : List Ln) (d : Int) (w : World) (h : RT w B r c v l) (hB : B ≤ w.heap.size) :
    Calls Try.prog 16 #[.pointer (some ⟨r, 0, none⟩), .int .i64 d] w fun e w' => e = .returned (.int .i64 ((l.length : Int) - ((l.filter fun x => !isD d x).length : Int))) ∧ (∃ v', RT w' B r c v' (l.filter fun x => !isD d x)) ∧ Fr r v.ownBlock w w' := by
  have hlen := h.len
  have hrl := h.blk.lt
  obtain ⟨A, cap, hv, hcap⟩ := h.form
  have H := Lib.hid h; clear h
  obtain ⟨m, hm⟩ : ∃ m, m = l.length := ⟨_, rfl⟩
  rw [← hm] at hlen hv hcap
  have HM := Lib.hid hm; clear hm
  subst hv
  obtain ⟨i0, hi, hz0, hz1, hz2⟩ := info_parts infoRln
  have HI := Lib.hid hi; have HZ0 := Lib.hid hz0; have HZ1 := Lib.hid hz1; have HZ2 := Lib.hid hz2; clear hi hz0 hz1 hz2
  go_enter Try.func16, Try.ntmps16
  go_wp2_with fail
  go_loopw [5, 6] (fun vr i wr => ∃ (k : Nat), k ≤ m ∧ i = .int .i64 k ∧ wr.ownsRow w.heap.size 68 4 vr ((l.take k).filter fun x => !isD d x).length (ints (lns ((l.take k).filter fun x => !isD d x))) ∧ Below w.heap.size w wr) (fun _ i _ => m - (intOf i).toNat)
  case atStart => exact ⟨0, by omega, rfl, World.ownsRow_nil _ _ _ _, Below.refl _ _⟩
  case round =>
    obtain ⟨k, hk, rfl, hown, hbel⟩ := hrel
    have hsz := hbel.size
    have hrt := H.out.below hbel
    have hc := hrt.cell1
    by_cases hlt : k < m
    · have hkl : k < l.length := by rw [← HM.out]; exact hlt
      obtain ⟨b, cap', hv, hbr, _, c0, c1, c2, c3⟩ := hrt.at_ k hkl
      simp only [Value.slice.injEq] at hv
      obtain ⟨rfl, _, rfl⟩ := hv
      have htk := List.take_succ_eq_append_getElem hkl
      generalize hx : l[k] = x at *
      clear hx hrt
      have hfl : ((l.take k).filter fun x => !isD d x).length ≤ 17 := by
        have h1 := List.length_filter_le (fun x => !isD d x) (l.take k)
        have h2 : (l.take k).length ≤ k := List.length_take_le _ _
        omega
      by_cases e1 : x.d = d
      · have HF : Hid ((l.take (k + 1)).filter (fun x => !isD d x) = (l.take k).filter (fun x => !isD d x)) := Lib.hid (by rw [htk, List.filter_append]; simp [isD, e1])
        rw [e1] at c0
        clear e1 htk
        go_wp2_with fail
        go_roundw
        case rel => exact ⟨k + 1, by omega, by go_num, by rw [HF.out]; exact hown, hbel⟩
        case measure => simp [intOf]; omega
      · have HF : Hid ((l.take (k + 1)).filter (fun x => !isD d x) = (l.take k).filter (fun x => !isD d x) ++ [x]) := Lib.hid (by rw [htk, List.filter_append]; simp [isD, e1])
        have e1' : (x.d != d) = true := by simpa using e1
        clear e1 htk
        generalize (l.take k).filter (fun x => !isD d x) = L at *
        have hrl' : r < wr.heap.size := by omega
        have hbl' : b < wr.heap.size := by have := World.block_lt_of_cell? wr _ c0; exact this
        go_wp2_with (at_builtin; refine wpList_append_own _ rfl _ _ 55 rfl w.heap.size 68 i0 _ 4 32 Try.underlying55 HI.out HZ0.out HZ1.out HZ2.out rfl (by decide) _ L.length (ints (lns L)) rfl (hown.alloc _) ⟨wr.heap.size, 0, none⟩ 1 1 (ints (ln4 x)) rfl rfl (by exact row_new wr (ints (ln4 x)) _) (ints_one _) (by unfold maxLen; omega) (by omega) (by simp <;> omega) ?_)
        intro v' w2 hown' hgrow _
        have hbel2 := below_one _ hown hbel.size hbel hgrow
        clear hgrow hown hbel
        go_wp2_with fail
        go_roundw
        case rel => exact ⟨k + 1, by omega, by go_num, by rw [HF.out, lns_append, ints_append, List.length_append]; simpa [lns] using hown', hbel2⟩
        case measure => simp [intOf]; omega
    · obtain rfl : k = m := by omega
      have e0 : l.take k = l := by rw [HM.out, List.take_length]
      rw [e0] at hown
      have hfl := List.length_filter_le (fun x => !isD d x) l
      generalize hL : l.filter (fun x => !isD d x) = L at *
      have HL := Lib.hid hL
      obtain ⟨n, hn⟩ : ∃ n, n = L.length := ⟨_, rfl⟩
      obtain ⟨A5, c5, hv5, _⟩ := Sl.own hown
      rw [← hn] at hfl hv5
      have hfl' : n ≤ k := by rw [HM.out]; exact hfl
      have H4 := Lib.hid (RT.row_ hrt.blk (own_lower hown hB) (by rw [← hn]; omega))
      subst hv5
      have fr3 := Fr.of hbel r (Value.slice A k cap).ownBlock
      have fr4 := fr3.set (p := ⟨r, 1, none⟩) (.inr (.inl rfl)) (.slice A5 n c5)
      have hf := hrt.blk.frozen 1
      have HK := Lib.hid HM.out
      have HNN := Lib.hid hn
      clear hown hrt hbel e0 hL hn
      go_wp2_with fail
      go_ret
      rw [HL.out, ← HK.out, ← HNN.out]
      exact ⟨rfl, ⟨_, H4.out⟩, fr4⟩

end Go.Proofs.Ytiegonnnokldkaa
