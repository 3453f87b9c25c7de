/-
  Contracts of package iommu: allowed, zero.
-/
import Derived.Test.YtggdbiniklchoaaIop3
import Derived.Test.YtggdbiniklchoaaIopA
namespace Go.Proofs.Ytggdbiniklchoaa
open Go.RowKit
set_option linter.unusedVariables false
set_option maxRecDepth 100000

/-- What a call that looks up knows of the world: nothing but the cache has turned since w0. -/
structure Ew (B : Nat) (w0 : World) (x g t : Nat) (v : Value) (ps : List (List Int)) (l : List UInt8) (w : World) : Prop where
  ix : Ix B w x g t v ps l
  cw : Cw w t
  gr : w0.grownBy w (some t)
  tw : t < w0.heap.size
section
variable {B : Nat} {w0 w w' : World} {x g t : Nat} {v : Value} {ps : List (List Int)} {l : List UInt8}
theorem Ew.start (h : Ix B w x g t v ps l) (hc : Cw w t) : Ew B w x g t v ps l w := ⟨h, hc, grefl _ _, by obtain ⟨L, hp, _⟩ := hc; exact hp.lt⟩
theorem Ew.drewN (e : Ew B w0 x g t v ps l w) (n : Nat) : Ew B w0 x g t v ps l (w.drewN n) := ⟨e.ix.drewN n, e.cw.drewN n, gdrewN e.gr n, e.tw⟩
theorem Ew.drew (e : Ew B w0 x g t v ps l w) : Ew B w0 x g t v ps l w.drew := e.drewN 1
theorem Ew.alloc (e : Ew B w0 x g t v ps l w) (o : Obj) : Ew B w0 x g t v ps l (w.alloc o) := ⟨e.ix.alloc o, e.cw.alloc o, galloc e.gr o, e.tw⟩
theorem Ew.below (e : Ew B w0 x g t v ps l w) (hb : Below w.heap.size w w') : Ew B w0 x g t v ps l w' := ⟨e.ix.below hb (Nat.le_refl _), e.cw.below hb, gtrans e.gr (gof hb _), e.tw⟩
theorem Ew.next (e : Ew B w0 x g t v ps l w) (hi : Ix B w' x g t v ps l) (hc : Cw w' t) (gr : w.grownBy w' (some t)) : Ew B w0 x g t v ps l w' := ⟨hi, hc, gtrans e.gr gr, e.tw⟩
/-- A block of the call's own is written. -/
theorem Ew.other (e : Ew B w0 x g t v ps l w) {k : Nat} {cs : List Value} (hk : Blk w k 46 cs) (hw : w0.heap.size ≤ k) (i : Nat) (u : Value) : Ew B w0 x g t v ps l (w.setCell ⟨k, i, none⟩ u) := by
  have n1 : x ≠ k := e.ix.sx.apart hk (by decide)
  have n2 : g ≠ k := by obtain ⟨m, r, _, _, _, _, hg⟩ := e.ix.pm; exact hg.apart hk (by decide)
  obtain ⟨L, hp, hL⟩ := e.cw
  have n3 : t ≠ k := by obtain ⟨z, _, hb⟩ := hp; exact hb.apart hk (by decide)
  exact ⟨⟨e.ix.sx.far n1 _, e.ix.pl.grown (gone u) hk (by decide), e.ix.pm.far n2 _, e.ix.n1, e.ix.n4, e.ix.lens, e.ix.inr⟩, ⟨L, hp.far n3 _, hL⟩, gset e.gr (.inr hw) _, e.tw⟩
/-- Another's block stays. -/
theorem Ew.blk (e : Ew B w0 x g t v ps l w) {k : Nat} {cs : List Value} (hk : Blk w k 46 cs) (gr : w.grownBy w' (some t)) : Blk w' k 46 cs := by
  obtain ⟨L, ⟨z, _, hb⟩, hL⟩ := e.cw
  exact hk.grown gr (by simpa using hk.apart hb (by decide))
end

theorem has_and (Q : Int) (h1 : 1 ≤ Q) (h3 : Q ≤ 3) (write : Bool) : (bits BinOp.and IntKind.i64 Q (if write then 2 else 1) = 0 ∧ hasP Q write = false) ∨ (bits BinOp.and IntKind.i64 Q (if write then 2 else 1) ≠ 0 ∧ hasP Q write = true) := by
  have : Q = 1 ∨ Q = 2 ∨ Q = 3 := by omega
  rcases this with rfl | rfl | rfl <;> cases write <;> decide

theorem walk_le (l : List UInt8) (r p : Int) : wP l r p ≤ 3 ∧ 0 ≤ wP l r p := by
  have hs : ∀ F k, sP l F k ≤ 3 ∧ 0 ≤ sP l F k := by
    intro F k; unfold sP sC
    by_cases hg : gB (sW l F k) = true ∧ gF (sW l F k) < ((l.length / 64 : Nat) : Int)
    · have := g_bounds _ hg.1
      split <;> omega
    · rw [if_neg hg]; simp
  unfold wP
  split
  · exact hs _ _
  · omega

section
variable {B : Nat} {x g t : Nat} {v : Value} {ps : List (List Int)} {l : List UInt8}
set_option maxHeartbeats 4000000 in
theorem allowed_any (d p : Int) (write : Bool) (w : World) (h : Ix B w x g t v ps l) (hc : Cw w t) (h0 : 0 ≤ d) (h1 : d < ps.length) (hp0 : 0 ≤ p) (hp1 : p < 256) :
    Calls Try.prog 47 #[.pointer (some ⟨x, 0, none⟩), .int .i64 d, .int .i64 p, .bool write] w (EnP B x g t v ps l w (if pgC l (ioRoot ps d) write p = 0 then wF l (ioRoot ps d) p else 0) (if pgC l (ioRoot ps d) write p = 0 then wP l (ioRoot ps d) p else 0) (pgC l (ioRoot ps d) write p)) := by
  obtain ⟨m, hm1, hm2, hm, hf⟩ := h.frs
  obtain ⟨_, _, _, hr0, hr1⟩ := h.pool h0 h1
  have hwk := walk_two l (ioRoot ps d) p m hm hr0 (by omega) hp0 hp1
  have hle := walk_le l (ioRoot ps d) p
  have K := Lib.hid (fun W hW hc => entryOf_any (B := B) (x := x) (g := g) (t := t) (v := v) (ps := ps) (l := l) d p W hW hc h0 h1 hp0 hp1)
  have hpg : pgC l (ioRoot ps d) write p = if uC l (ioRoot ps d) p = 0 then (if hasP (wP l (ioRoot ps d) p) write then 0 else 703) else uC l (ioRoot ps d) p := rfl
  have hew := (Ew.start h hc).alloc (.cells #[.int .i64 0, .int .i64 0] 46)
  have hbl := Blk.new w 46 (ints [0, 0])
  change Blk (w.alloc (.cells #[.int .i64 0, .int .i64 0] 46)) _ _ _ at hbl
  have hu : ¬ (wC l (ioRoot ps d) p = 0) → uC l (ioRoot ps d) p ≠ 0 := by
    intro hn
    rcases hwk with ⟨e, _⟩ | ⟨_, _, _, e⟩
    · exact absurd e hn
    · rw [e]; split <;> omega
  generalize ioRoot ps d = R at *
  generalize hFA : (if pgC l R write p = 0 then wF l R p else 0) = FA
  generalize hFQ : (if pgC l R write p = 0 then wP l R p else 0) = FQ
  generalize hPG : pgC l R write p = G at *
  generalize hA : wF l R p = A at *
  generalize hQ : wP l R p = Q at *
  generalize hC : uC l R p = C at *
  generalize wC l R p = CC at *
  have HWK := Lib.hid hwk; have HPG := Lib.hid hpg; have HU := Lib.hid hu; have HFA := Lib.hid hFA; have HFQ := Lib.hid hFQ
  have KA : Hid (∀ W, Calls Try.prog 67 #[.bool write] W fun e w' => e = .returned (.int .i64 (if write then 2 else 1)) ∧ W = w') := Lib.hid fun W => asked_any write W
  have hand := has_and Q
  replace hand := fun a b => hand a b write
  generalize (if write then (2 : Int) else 1) = ask at *
  have HAND := Lib.hid hand
  clear hwk hpg hPG hA hQ hC hu h hc hFA hFQ hand
  go_enter Try.func47, Try.ntmps47
  go_wp2_with fail
  generalize w.alloc (.cells #[.int .i64 0, .int .i64 0] 46) = w1 at *
  have hwh : w.heap.size ≤ w.heap.size := Nat.le_refl _
  generalize hh : w.heap.size = h at hbl hwh ⊢
  have hhw : w.heap.size ≤ h := by omega
  have HH := Lib.hid hh; clear hh hwh
  refine (K.out _ hew.ix hew.cw).mono ?_
  rintro e w2 ⟨rfl, ix2, cw2, gr2⟩
  replace hbl := hew.blk hbl gr2
  replace hew := hew.next ix2 cw2 gr2
  clear ix2 cw2 gr2
  have hek := hew.alloc (.cells #[.int .i64 A, .int .i64 Q] 46)
  have hbk := Blk.new w2 46 (ints [A, Q])
  replace hbl := hbl.alloc (.cells #[.int .i64 A, .int .i64 Q] 46)
  change Blk (w2.alloc (.cells #[.int .i64 A, .int .i64 Q] 46)) _ _ _ at hbk
  have hwk2 : w.heap.size ≤ w2.heap.size := hew.gr.size
  obtain ⟨k0, k1, _, _⟩ := two_at hbk
  obtain ⟨v0, v1, f0, f1⟩ := two_at hbl
  have hhl := hbl.lt
  have fin : ∀ (a b : Int) (W : World), Ew B w x g t v ps l W → Blk W h 46 (ints [0, 0]) → EnP B x g t v ps l w a b G (.returned (.tuple #[.agg #[.int .i64 a, .int .i64 b], .int .i64 G])) ((W.setCell ⟨h, 0, none⟩ (.int .i64 a)).setCell ⟨h, 1, none⟩ (.int .i64 b)) ∧
      ((W.setCell ⟨h, 0, none⟩ (.int .i64 a)).setCell ⟨h, 1, none⟩ (.int .i64 b)).cell? ⟨h, 0, none⟩ = some (.int .i64 a) ∧ ((W.setCell ⟨h, 0, none⟩ (.int .i64 a)).setCell ⟨h, 1, none⟩ (.int .i64 b)).cell? ⟨h, 1, none⟩ = some (.int .i64 b) := by
    intro a b W e hb
    have hb2 := hb.setInt 0 a
    have e2 := (e.other hb hhw 0 (.int .i64 a)).other hb2 hhw 1 (.int .i64 b)
    have hb3 := hb2.setInt 1 b
    exact ⟨⟨rfl, e2.ix, e2.cw, e2.gr⟩, (hb3.cell 0).trans rfl, (hb3.cell 1).trans rfl⟩
  have FIN := Lib.hid fin; clear fin
  by_cases hC0 : C = 0
  · subst hC0
    have hQ1 : 1 ≤ Q := by
      rcases HWK.out with ⟨_, _, e⟩ | ⟨e, _⟩
      · exact e
      · exact absurd rfl (HU.out e)
    have hd := HAND.out hQ1 hle.1
    generalize hZ : bits BinOp.and IntKind.i64 Q ask = Z at *
    rcases hd with ⟨hz, hp⟩ | ⟨hz, hp⟩
    · subst hz
      have hG : G = 703 := by rw [HPG.out, if_pos rfl, hp]; rfl
      subst hG
      have hFA := HFA.out; have hFQ := HFQ.out
      rw [if_neg (by omega)] at hFA hFQ
      subst hFA hFQ
      clear HPG hp HFA HFQ
      go_wp2_with fail
      go_quiet ((go_at_call 67; first | exact quiet_ KA.out | exact quiet_a KA.out))
      go_wp2_with fail
      obtain ⟨e, r0, r1⟩ := FIN.out 0 0 _ (hek.drewN nq) (hbl.drewN nq)
      exact bodyPost_ret (v := .tuple #[.agg #[.int .i64 0, .int .i64 0], .int .i64 703]) (by simp [results, Try.results47, go_sem, r0, r1]) rfl e
    · have hG : G = 0 := by rw [HPG.out, if_pos rfl, hp]; rfl
      have hz1 : (Z == 0) = false := by simpa using hz
      have hz2 : decide (Z = 0) = false := decide_eq_false hz
      subst hG
      have hFA := HFA.out; have hFQ := HFQ.out
      rw [if_pos rfl] at hFA hFQ
      subst hFA hFQ
      clear HPG hp hz HFA HFQ
      go_wp2_with fail
      go_quiet ((go_at_call 67; first | exact quiet_ KA.out | exact quiet_a KA.out))
      go_wp2_with fail
      obtain ⟨e, r0, r1⟩ := FIN.out A Q _ (hek.drewN nq) (hbl.drewN nq)
      exact bodyPost_ret (v := .tuple #[.agg #[.int .i64 A, .int .i64 Q], .int .i64 0]) (by simp [results, Try.results47, go_sem, r0, r1]) rfl e
  · have hG : G = C := by rw [HPG.out, if_neg hC0]
    have hc1 : (C == 0) = false := by simpa using hC0
    have hc2 : (C != 0) = true := by simpa using hC0
    have hFA := HFA.out; have hFQ := HFQ.out
    rw [hG, if_neg hC0] at hFA hFQ
    subst hFA hFQ hG
    clear HPG HFA HFQ
    go_wp2_with fail
    obtain ⟨e, r0, r1⟩ := FIN.out 0 0 _ hek hbl
    exact bodyPost_ret (v := .tuple #[.agg #[.int .i64 0, .int .i64 0], .int .i64 _]) (by simp [results, Try.results47, go_sem, r0, r1]) rfl e
end

end Go.Proofs.Ytggdbiniklchoaa

namespace Go.Proofs.Ytggdbiniklchoaa
open Go.RowKit
set_option linter.unusedVariables false
set_option maxRecDepth 100000

/-- What a slice of ints of somebody's own reads as. -/
theorem own_open {w : World} {B n : Nat} {u : Value} {fs : List Int} (h : w.ownsRow B 3 1 u n (ints fs)) :
    ∃ A cap, u = .slice A n cap ∧ n ≤ cap ∧ fs.length = n ∧ (0 < n → ∃ b cs, A = some ⟨b, 0, none⟩ ∧ B ≤ b ∧ Blk w b 3 cs ∧ ∀ j, j < n → cs[j]? = some (.int .i64 (fs.getD j 0))) := by
  have hl : fs.length = n := by have := h.1; rw [ints_len] at this; omega
  rcases h.2 with ⟨rfl, hn⟩ | ⟨b, cap, cur, rfl, hb, hg, hnc, _, hsz, ht⟩
  · exact ⟨none, 0, by rw [hn], by omega, hl, fun h => by omega⟩
  · refine ⟨_, cap, rfl, hnc, hl, fun h0 => ⟨b, cur.toList, rfl, hb, hg, fun j hj => ?_⟩⟩
    rw [← ints_get fs j (by omega), ← ht, List.getElem?_take, if_pos (by omega)]

section
variable {x g t : Nat}
theorem zero_any (u : Value) (B0 n : Nat) (fs : List Int) (l : List UInt8) (cs : List Value) (w : World) (hx : Blk w x 74 (.pointer (some ⟨g, 0, none⟩) :: cs)) (hp : PM w g l) (ho : w.ownsRow B0 3 1 u n (ints fs)) (hn : n ≤ 5) :
    Calls Try.prog 27 #[.pointer (some ⟨x, 0, none⟩), u] w fun e w' => e = .returned (.tuple #[]) ∧ PM w' g (fs.foldl zeL l) ∧ w.grownBy w' (some g) := by
  obtain ⟨A, cap, rfl, hc, hl, hA⟩ := own_open ho
  have hxg : x ≠ g := by
    obtain ⟨m, r, _, _, _, _, hg⟩ := hp
    exact hx.apart hg (by decide)
  have hbg : ∀ b cs, Blk w b 3 cs → b ≠ g := by
    intro b cs hb
    obtain ⟨m, r, _, _, _, _, hg⟩ := hp
    exact hb.apart hg (by decide)
  have HP := Lib.hid hp; have HA := Lib.hid hA; have HX := Lib.hid hx; have HBG := Lib.hid hbg; have HXG := Lib.hid hxg; have HL := Lib.hid hl
  clear hp hA hx hbg ho hl
  go_enter Try.func27, Try.ntmps27
  go_wp2
  go_loopw [8] (fun i wq => ∃ (k : Nat), k ≤ n ∧ i = .int .i64 k ∧ PM wq g ((fs.take k).foldl zeL l) ∧ w.grownBy wq (some g)) (fun i _ => n - (intOf i).toNat)
  case atStart => exact ⟨0, by omega, rfl, HP.out, grefl _ _⟩
  case round =>
    obtain ⟨k, hk, rfl, hp, gr⟩ := hrel
    by_cases hlt : k < n
    · obtain ⟨b, bs, rfl, _, hb, hcell⟩ := HA.out (by omega)
      have hc1 := (hb.grown gr (by simpa using HBG.out b bs hb)).cell k
      rw [hcell k hlt] at hc1
      have hx1 := (HX.out.grown gr (by simpa using HXG.out)).cell 0
      rw [List.getElem?_cons_zero] at hx1
      have hst : (fs.take (k + 1)).foldl zeL l = zeL ((fs.take k).foldl zeL l) (fs.getD k 0) := by
        rw [List.take_add_one, List.foldl_append, List.getD, List.getElem?_eq_getElem (by rw [HL.out]; exact hlt)]
        rfl
      have HST := Lib.hid hst
      clear hcell hb hst
      generalize fs.getD k 0 = F at *
      go_wp2_with fail
      refine (pzero_any g _ F _ hp).mono ?_
      rintro e w1 ⟨rfl, hp1, gr1⟩
      go_wp2_with fail
      go_roundw
      case rel => exact ⟨k + 1, by omega, by go_num, by rw [HST.out]; exact hp1, gtrans gr gr1⟩
      case measure => simp [intOf]; omega
    · go_wp2
      go_end0
      refine ⟨rfl, ?_, gr⟩
      rw [List.take_of_length_le (by rw [HL.out]; omega)] at hp
      exact hp
end

end Go.Proofs.Ytggdbiniklchoaa

namespace Go.Proofs.Ytggdbiniklchoaa
open Go.RowKit
set_option linter.unusedVariables false
set_option maxRecDepth 100000

/-! ### the frames that are taken, as a row of Booleans -/
def bls (l : List Bool) : List Value := l.map Value.bool
/-- For each frame: is it one of these? -/
def ledL (us : List Int) : List Bool := (List.range 64).map fun j => us.contains ((j : Nat) : Int)
theorem ledL_len (us : List Int) : (bls (ledL us)).length = 64 := by simp [bls, ledL]
theorem ledL_get (us : List Int) (f : Nat) (h : f < 64) : (bls (ledL us))[f]? = some (.bool (us.contains (f : Int))) := by
  simp [bls, ledL, h]
theorem ledL_set (us : List Int) (f : Nat) (h : f < 64) : (bls (ledL us)).set f (.bool true) = bls (ledL (us ++ [(f : Int)])) := by
  apply List.ext_getElem?
  intro j
  rw [List.getElem?_set]
  by_cases hj : j < 64
  · rw [ledL_get _ j hj, ledL_get _ j hj, ledL_len]
    by_cases e : f = j
    · subst e; simp [h]
    · have : ¬ ((f : Int) = (j : Int)) := by omega
      have h2 : (j : Int) ≠ (f : Int) := by omega
      simp [e, h2]
  · have h1 : (bls (ledL us))[j]? = none := List.getElem?_eq_none (by rw [ledL_len]; omega)
    have h2 : (bls (ledL (us ++ [(f : Int)])))[j]? = none := List.getElem?_eq_none (by rw [ledL_len]; omega)
    rw [h1, h2, if_neg (by omega)]
def noLed : List Bool := List.replicate 64 false
def zLed : Array Value := (bls noLed).toArray
theorem zLed_ne : ¬ (zLed = #[]) := by simp [zLed, noLed, bls]
theorem zLed_run (w : World) : Sem.run Try.prog (zeroValue 95) w = .ok (.agg zLed) w := by
  have hi : (Try.prog.info? 95).map (fun i => i.zero) = some (some (.agg zLed)) := by kernel_rfl
  cases h : Try.prog.info? 95 with
  | none => rw [h] at hi; cases hi
  | some i =>
    rw [h] at hi
    simp [zeroValue, typeInfo, h] at hi ⊢
    simp [hi, go_sem]
theorem noLed_eq : bls noLed = bls (ledL []) := congrArg bls (by decide)
theorem Blk.bool {w : World} {h : Nat} {t : TypeId} {us : List Int} (hb : Blk w h t (bls (ledL us))) {f : Nat} (hf : f < 64) : w.cell? ⟨h, f, none⟩ = some (.bool (us.contains (f : Int))) := by rw [hb.cell, ledL_get us f hf]

/-! ### the leaf that is left -/
/-- The leaves that the first k words lead to. -/
def usK (l : List UInt8) (r : Int) (k : Nat) : List Int := ((List.range k).map (fun i => lfI l r ((i : Nat) : Int))).filter (fun f => decide (0 ≤ f))
theorem usK_no (l : List UInt8) (r : Int) (k : Nat) (h : lfB l r (k : Int) = false) : usK l r (k + 1) = usK l r k := by
  unfold lfB at h
  unfold usK
  rw [List.range_succ, List.map_append, List.filter_append]
  simp [h]
theorem usK_yes (l : List UInt8) (r : Int) (k : Nat) (h : lfB l r (k : Int) = true) : usK l r (k + 1) = usK l r k ++ [lfN l r (k : Int)] := by
  have h' : 0 ≤ lfI l r (k : Int) := by unfold lfB at h; simpa using h
  unfold usK lfN
  rw [List.range_succ, List.map_append, List.filter_append, if_pos h']
  simp [h']
theorem usK_used (l : List UInt8) (r : Int) (f : Int) (h : 0 ≤ f) : (usK l r 16).contains f = (usedI l r).contains f := by
  unfold usK usedI
  rw [Bool.eq_iff_iff]
  simp only [List.contains_iff_mem, List.mem_filter, decide_eq_true_eq]
  exact ⟨fun ⟨a, _⟩ => a, fun a => ⟨a, h⟩⟩

def frN (l : List UInt8) (pl : List Int) : Int := if 0 ≤ freshI l pl then freshI l pl else 0
def frB' (l : List UInt8) (pl : List Int) : Bool := decide (0 ≤ freshI l pl)
/-- Is a leaf left? -/
def isL (l : List UInt8) (r f : Int) : Bool := !(usedI l r).contains f
theorem fresh_found (l : List UInt8) (pl : List Int) (j : Nat) (hj : 1 + j < pl.length) (hf : 0 ≤ pl.getD (1 + j) 0) (hd : ((pl.drop (1 + j)).find? (isL l (pl.getD 0 0))) = ((pl.drop 1).find? (isL l (pl.getD 0 0)))) (h : isL l (pl.getD 0 0) (pl.getD (1 + j) 0) = true) :
    frN l pl = pl.getD (1 + j) 0 ∧ frB' l pl = true := by
  have e : freshI l pl = pl.getD (1 + j) 0 := by
    show ((pl.drop 1).find? (isL l (pl.getD 0 0))).getD (-1) = _
    rw [← hd, List.drop_eq_getElem_cons hj, List.find?_cons_of_pos]
    · simp [List.getD, List.getElem?_eq_getElem hj]
    · simpa [List.getD, List.getElem?_eq_getElem hj] using h
  unfold frN frB'
  rw [e]
  exact ⟨if_pos hf, decide_eq_true hf⟩
theorem fresh_next (l : List UInt8) (pl : List Int) (j : Nat) (hj : 1 + j < pl.length) (hd : ((pl.drop (1 + j)).find? (isL l (pl.getD 0 0))) = ((pl.drop 1).find? (isL l (pl.getD 0 0)))) (h : isL l (pl.getD 0 0) (pl.getD (1 + j) 0) = false) :
    ((pl.drop (1 + (j + 1))).find? (isL l (pl.getD 0 0))) = ((pl.drop 1).find? (isL l (pl.getD 0 0))) := by
  rw [← hd, List.drop_eq_getElem_cons hj, List.find?_cons_of_neg]
  · rfl
  · simpa [List.getD, List.getElem?_eq_getElem hj] using h
theorem fresh_end (l : List UInt8) (pl : List Int) (j : Nat) (hj : pl.length ≤ 1 + j) (hd : ((pl.drop (1 + j)).find? (isL l (pl.getD 0 0))) = ((pl.drop 1).find? (isL l (pl.getD 0 0)))) :
    frN l pl = 0 ∧ frB' l pl = false := by
  have e : freshI l pl = -1 := by
    show ((pl.drop 1).find? (isL l (pl.getD 0 0))).getD (-1) = _
    rw [← hd, List.drop_of_length_le hj]
    rfl
  unfold frN frB'
  rw [e]
  exact ⟨rfl, rfl⟩

theorem intSl_from (b n cap : Nat) (hn : 1 ≤ n) (hc : n < cap ∨ n = cap ∧ 2 ≤ n) : ∀ w, (Instr.slice 35 (.slice (some ⟨b, 0, none⟩) n cap) (some (.int .i64 1)) none none).run Try.prog w = .ok (.slice (some ⟨b, 1, none⟩) (n - 1) (cap - 1)) w := by
  have hi : (Try.prog.info? 3).map (fun i => (i.zero, i.size, i.bytes)) = some (some (.int .i64 0), 1, 8) := by kernel_rfl
  obtain ⟨i0, hi, _, hz1, _⟩ := info_parts hi
  have he : Try.prog.elem 35 = 3 := by kernel_rfl
  have hz : ∀ w, (Go.sizeOf 3).run Try.prog w = .ok 1 w := by intro w; simp [Go.sizeOf, typeInfo, hi, hz1]
  have key := fun w => run_slice_l w 35 (some ⟨b, 0, none⟩) n cap (by rw [he]; exact Try.underlying35) .i64 1 (by omega) (by omega)
  have h : ¬ (cap = 1) := by omega
  intro w
  rw [key, he, hz]; simp [Result.andThen, sliced, h, add_none]

/-- A round of the first loop: the row of what is taken. -/
structure Led (B : Nat) (w0 : World) (x g t h : Nat) (v : Value) (ps : List (List Int)) (l : List UInt8) (us : List Int) (w : World) : Prop where
  ix : Ix B w x g t v ps l
  led : Blk w h 95 (bls (ledL us))
  b : Below w0.heap.size w0 w
  wh : w0.heap.size ≤ h
section
variable {B : Nat} {w0 w w' : World} {x g t h : Nat} {v : Value} {ps : List (List Int)} {l : List UInt8} {us : List Int}
theorem Led.below (e : Led B w0 x g t h v ps l us w) (hb : Below w.heap.size w w') : Led B w0 x g t h v ps l us w' :=
  ⟨e.ix.below hb (Nat.le_refl _), e.led.below hb e.led.lt, Below.down e.b hb e.b.size, e.wh⟩
theorem Led.drewN (e : Led B w0 x g t h v ps l us w) (n : Nat) : Led B w0 x g t h v ps l us (w.drewN n) := ⟨e.ix.drewN n, e.led.drewN n, bdrewN e.b n, e.wh⟩
theorem Led.set (e : Led B w0 x g t h v ps l us w) (f : Nat) (hf : f < 64) : Led B w0 x g t h v ps l (us ++ [(f : Int)]) (w.setCell ⟨h, f, none⟩ (.bool true)) := by
  have n1 : x ≠ h := e.ix.sx.apart e.led (by decide)
  have n2 : g ≠ h := by obtain ⟨m, r, _, _, _, _, hg⟩ := e.ix.pm; exact hg.apart e.led (by decide)
  refine ⟨⟨e.ix.sx.far n1 _, e.ix.pl.grown (gone _) e.led (by decide), e.ix.pm.far n2 _, e.ix.n1, e.ix.n4, e.ix.lens, e.ix.inr⟩, ?_, e.b.setCell (p := ⟨h, f, none⟩) e.wh _, e.wh⟩
  rw [← ledL_set us f hf]
  exact e.led.set f _
end

section
variable {B : Nat} {x g t : Nat} {v : Value} {ps : List (List Int)} {l : List UInt8}
set_option maxHeartbeats 4000000 in
theorem leftLeaf_any (d : Int) (w : World) (h : Ix B w x g t v ps l) (h0 : 0 ≤ d) (h1 : d < ps.length) :
    Calls Try.prog 63 #[.pointer (some ⟨x, 0, none⟩), .int .i64 d] w fun e w' => e = .returned (.tuple #[.int .i64 (frN l (ioPool ps d)), .bool (frB' l (ioPool ps d))]) ∧ Below w.heap.size w w' := by
  obtain ⟨m, hm1, hm2, hm, hf⟩ := h.frs
  obtain ⟨hmem, hpl, hpl5, hr0, hr1⟩ := h.pool h0 h1
  have hpin := h.inr _ hmem
  have hlf := fun i => lf_cases l (ioRoot ps d) i m hm
  have K := Lib.hid (fun p W hW => leafOf_any (B := B) (x := x) (g := g) (t := t) (v := v) (ps := ps) (l := l) d p W hW h0 h1)
  have hled : Led B w x g t w.heap.size v ps l [] (w.alloc (.cells zLed 95)) := ⟨h.alloc _, by
    have := Blk.new w 95 (bls noLed)
    rw [noLed_eq] at this
    rw [← noLed_eq] at this ⊢
    exact this, (Below.refl _ _).alloc (Nat.le_refl _) _, Nat.le_refl _⟩
  have hz := zLed_run
  have hne := zLed_ne
  obtain ⟨k, rfl⟩ := Int.eq_ofNat_of_zero_le h0
  have hkn : k < ps.length := by omega
  have hR : ioRoot ps ((k : Nat) : Int) = (ioPool ps ((k : Nat) : Int)).getD 0 0 := rfl
  have hP : ps.getD k [] = ioPool ps ((k : Nat) : Int) := by unfold ioPool; rw [Int.toNat_natCast]
  generalize hpool : ioPool ps ((k : Nat) : Int) = pl at *
  generalize hroot : ioRoot ps ((k : Nat) : Int) = R at *
  have HLF := Lib.hid hlf; have HPIN := Lib.hid hpin; have HP := Lib.hid hP; have HR := Lib.hid hR; have HF := Lib.hid hf
  have hlen : ps.length ≤ 4 := h.n4
  have hn1 := h.n1
  clear hlf hpin hP hR hpool hroot hmem h hf hm h0
  go_enter Try.func63, Try.ntmps63
  go_wp2_with fail
  generalize w.alloc (.cells zLed 95) = w1 at *
  generalize hh : w.heap.size = h at hled
  have HH := Lib.hid hh; clear hh hz hne
  go_loopw [12] (fun i wq => ∃ (q : Nat), q ≤ 16 ∧ i = .int .i64 q ∧ Led B w x g t h v ps l (usK l R q) wq) (fun i _ => 16 - (intOf i).toNat)
  case atStart => exact ⟨0, by omega, rfl, hled⟩
  case round =>
    obtain ⟨q, hq, rfl, he⟩ := hrel
    clear hled
    by_cases hlt : q < 16
    · go_wp2_with fail
      refine (K.out _ _ he.ix (by omega) (by omega)).mono ?_
      rintro e w2 ⟨rfl, b2⟩
      replace he := he.below b2
      clear b2
      have e16 : (q : Int) * 16 / 16 = q := by omega
      rw [e16]
      clear e16
      have hcase : (lfB l R q = false) ∨ (lfB l R q = true ∧ ∃ F : Nat, lfN l R q = (F : Int) ∧ F < m) := by
        rcases HLF.out q with ⟨_, _, e, _⟩ | ⟨_, _, _, e, _⟩ | ⟨_, _, _, _, e, _⟩ | ⟨_, _, e1, e2, e3, e4, _⟩
        · exact .inl e
        · exact .inl e
        · exact .inl e
        · exact .inr ⟨e4, (gF (sW l R q)).toNat, by rw [e3]; omega, by omega⟩
      rcases hcase with hb | ⟨hb, F, hF, hFm⟩
      · have hu := usK_no l R q hb
        have HU := Lib.hid hu
        rw [hb]
        clear hb hu
        go_wp2_with fail
        go_roundw
        case rel => exact ⟨q + 1, by omega, by go_num, by rw [HU.out]; exact he⟩
        case measure => simp [intOf]; omega
      · have hu := usK_yes l R q hb
        rw [hF] at hu
        have HU := Lib.hid hu
        rw [hb, hF]
        have hfz := he.led.frozen F
        have hcell := he.led.bool (f := F) (by omega)
        have hll := he.led.lt
        clear hb hu hF
        go_wp2_with fail
        go_roundw
        case rel => exact ⟨q + 1, by omega, by go_num, by rw [HU.out]; exact he.set F (by omega)⟩
        case measure => simp [intOf]; omega
    · have hq16 : q = 16 := by omega
      subst hq16
      obtain ⟨cx0, cx1, _⟩ := he.ix.cells
      obtain ⟨b, cap, hv, _, _, hp⟩ := he.ix.pl.slice hn1
      subst hv
      obtain ⟨qb, c, c2, _, _, hlc, c3⟩ := hp k hkn (by rw [HP.out]; omega)
      rw [HP.out] at c2 hlc c3
      have HUS := Lib.hid (fun f hf => usK_used l R f hf)
      generalize usK l R 16 = U at *
      have C3 := Lib.hid c3
      have hsl := intSl_from qb pl.length c (by omega) (by omega)
      clear hp c3
      go_wp2_with fail
      go_loopw [36] (fun i wq => ∃ (j : Nat), 1 + j ≤ pl.length ∧ i = .int .i64 j ∧ Led B w x g t h (.slice (some ⟨b, 0, none⟩) ps.length cap) ps l U wq ∧ Hid (∀ j, j < pl.length → wq.cell? ⟨qb, j, none⟩ = some (.int .i64 (pl.getD j 0))) ∧ Hid (((pl.drop (1 + j)).find? (isL l (pl.getD 0 0))) = ((pl.drop 1).find? (isL l (pl.getD 0 0))))) (fun i _ => pl.length - (intOf i).toNat)
      case atStart => exact ⟨0, by omega, rfl, he, C3, Lib.hid rfl⟩
      case round =>
        clear he C3 c2 cx0 cx1 hsl
        obtain ⟨j, hj, rfl, he, C3, D⟩ := hrel
        by_cases hlt : 1 + j < pl.length
        · have hc := C3.out (1 + j) hlt
          have hF := HPIN.out (pl.getD (1 + j) 0) (by rw [List.getD, List.getElem?_eq_getElem hlt]; exact List.getElem_mem hlt)
          rw [HF.out] at hF
          obtain ⟨F, hFe⟩ := Int.eq_ofNat_of_zero_le hF.1
          have hcell := he.led.bool (f := F) (by omega)
          have hF64 : F < 64 := by omega
          cases hU : U.contains (F : Int) with
          | true =>
            have hi : isL l (pl.getD 0 0) (pl.getD (1 + j) 0) = false := by
              unfold isL
              rw [hFe, ← HR.out, ← HUS.out _ (by omega), hU]; rfl
            have D2 := Lib.hid (fresh_next l pl j hlt D.out hi)
            rw [hU] at hcell
            rw [hFe] at hc
            clear hi hU hF hFe D
            go_wp2_with fail
            go_roundw
            case rel => exact ⟨j + 1, by omega, by go_num, he, C3, D2⟩
            case measure => simp [intOf]; omega
          | false =>
            have hi : isL l (pl.getD 0 0) (pl.getD (1 + j) 0) = true := by
              unfold isL
              rw [hFe, ← HR.out, ← HUS.out _ (by omega), hU]; rfl
            have D2 := Lib.hid (fresh_found l pl j hlt hF.1 D.out hi)
            rw [hU] at hcell
            rw [hFe] at hc D2
            clear hi hU hF hFe D
            go_wp2_with fail
            go_ret2
            exact ⟨by rw [D2.out.1, D2.out.2]; rfl, he.b⟩
        · have D2 := Lib.hid (fresh_end l pl j (by omega) D.out)
          clear D
          go_wp2_with fail
          go_ret2
          exact ⟨by rw [D2.out.1, D2.out.2]; rfl, he.b⟩
end

end Go.Proofs.Ytggdbiniklchoaa

namespace Go.Proofs.Ytggdbiniklchoaa
open Go.RowKit
set_option linter.unusedVariables false
set_option maxRecDepth 100000

theorem fresh_mem (l : List UInt8) (pl : List Int) (h : frB' l pl = true) : frN l pl ∈ pl := by
  have h' : 0 ≤ freshI l pl := by unfold frB' at h; simpa using h
  unfold frN
  rw [if_pos h']
  have e : freshI l pl = ((pl.drop 1).find? (isL l (pl.getD 0 0))).getD (-1) := rfl
  cases hf : (pl.drop 1).find? (isL l (pl.getD 0 0)) with
  | none => rw [hf] at e; rw [e] at h'; exact absurd h' (by decide)
  | some y =>
    rw [hf] at e
    rw [e]
    exact List.mem_of_mem_drop (List.mem_of_find?_eq_some hf)

theorem pw_yes (l : List UInt8) (a x : Int) (h0 : 0 ≤ a) (h4 : a % 4 = 0) (h : a + 4 ≤ l.length) (hx0 : 0 ≤ x) (hx1 : x ≤ 4294967295) : errC (pwB l.length a x) = 0 := by
  rw [show pwB l.length a x = true from decide_eq_true ⟨h0, h4, h, hx0, hx1⟩]; rfl

theorem rootPlace_still (r p : Int) (w : World) (h0 : 0 ≤ r) (h1 : r < 64) (hp0 : 0 ≤ p) (hp1 : p < 256) :
    Calls Try.prog 60 #[.int .i64 r, .int .i64 p] w fun e w' => e = .returned (.int .i64 (r * 64 + p / 16 * 4)) ∧ w' = w :=
  (rootPlace_any r p w h0 h1 hp0 hp1).mono fun _ _ ⟨a, b⟩ => ⟨a, b.symm⟩
theorem leafPlace_still (r p : Int) (w : World) (h0 : 0 ≤ r) (h1 : r < 64) (hp0 : 0 ≤ p) (hp1 : p < 256) :
    Calls Try.prog 44 #[.int .i64 r, .int .i64 p] w fun e w' => e = .returned (.int .i64 (r * 64 + p % 16 * 4)) ∧ w' = w :=
  (leafPlace_any r p w h0 h1 hp0 hp1).mono fun _ _ ⟨a, b⟩ => ⟨a, b.symm⟩

def addL7 (l : List UInt8) (pl : List Int) (p : Int) : List UInt8 := if frB' l pl then pwL l (pl.getD 0 0 * 64 + p / 16 * 4) (eN (frN l pl) 3) else l

section
variable {B : Nat} {x g t : Nat} {v : Value} {ps : List (List Int)} {l : List UInt8}
set_option maxHeartbeats 4000000 in
theorem addLeaf_any (d p : Int) (w : World) (h : Ix B w x g t v ps l) (h0 : 0 ≤ d) (h1 : d < ps.length) (hp0 : 0 ≤ p) (hp1 : p < 256) :
    Calls Try.prog 42 #[.pointer (some ⟨x, 0, none⟩), .int .i64 d, .int .i64 p] w fun e w' => e = .returned (.tuple #[.int .i64 (frN l (ioPool ps d)), .bool (frB' l (ioPool ps d))]) ∧ Ix B w' x g t v ps (addL7 l (ioPool ps d) p) ∧ w.grownBy w' (some g) := by
  obtain ⟨m, hm1, hm2, hm, hf⟩ := h.frs
  obtain ⟨hmem, hpl, hpl5, hr0, hr1⟩ := h.pool h0 h1
  have hpin := h.inr _ hmem
  have hfm := fresh_mem l (ioPool ps d)
  have K := Lib.hid (leftLeaf_any d w h h0 h1)
  have KR := Lib.hid (fun W hW => root_still (B := B) (x := x) (g := g) (t := t) (v := v) (ps := ps) (l := l) d (ioRoot ps d) W hW h0 h1 rfl)
  have hR : ioRoot ps d = (ioPool ps d).getD 0 0 := rfl
  unfold addL7
  rw [← hR]
  clear hR
  generalize ioPool ps d = pl at *
  generalize ioRoot ps d = R at *
  cases hb : frB' l pl with
  | false =>
    have HBF := Lib.hid hb
    have HH := Lib.hid h
    clear hpin hfm hb h
    go_enter Try.func42, Try.ntmps42
    go_wp2_with fail
    have hk := K.out
    rw [HBF.out] at hk
    have HFN : Hid (frN l pl = 0) := Lib.hid (by have h := HBF.out; unfold frB' at h; unfold frN; rw [if_neg (by simpa using h)])
    rw [HFN.out] at hk
    refine hk.mono ?_
    rintro e w1 ⟨rfl, b1⟩
    clear hk
    go_wp2_with fail
    go_ret2
    exact ⟨by rw [HFN.out]; rfl, HH.out.below b1 (Nat.le_refl _), gof b1 _⟩
  | true =>
    have hF := hpin _ (hfm hb)
    rw [hf] at hF
    generalize hFN : frN l pl = F at *
    have hk := K.out
    rw [hb] at hk
    have HK := Lib.hid hk
    have hN := eN_bounds F 3 hF.1 (by omega) (by omega) (by omega)
    have hpw := pw_yes l (R * 64 + p / 16 * 4) (eN F 3) (by omega) (by omega) (by omega) hN.1 hN.2
    generalize hNN : eN F 3 = N at *
    have hE : e4 (eB F 3) = 0 := by
      have : eB F 3 = true := by unfold eB; exact decide_eq_true (.inr (by omega))
      rw [this]; rfl
    have HN := Lib.hid hNN; have HE := Lib.hid hE; have HPW := Lib.hid hpw; have HH := Lib.hid h; have HM := Lib.hid hm
    have HRP := Lib.hid (fun W => rootPlace_still R p W hr0 (by omega) hp0 hp1)
    clear K hk hpin hfm hb hNN hE hpw hFN h hm hmem hf
    go_enter Try.func42, Try.ntmps42
    go_wp2_with fail
    refine HK.out.mono ?_
    rintro e w1 ⟨rfl, b1⟩
    have hix := HH.out.below b1 (Nat.le_refl _)
    go_wp2_with fail
    refine (eput_is F 3 N 0 _ HN.out HE.out).mono ?_
    rintro e w2 ⟨rfl, b2⟩
    replace hix := hix.below b2 (Nat.le_refl _)
    have gr := gtrans (gof b1 (some g)) (gof b2 (some g))
    clear b1 b2
    obtain ⟨cx0, cx1, cx2⟩ := hix.cells
    go_wp2_with fail
    go_still_tail 13, (by kernel_rfl)
    still_call (KR.out _ (hix.drewN 1))
    repeat still_step
    still_call (HRP.out _)
    repeat still_step
    refine wpStill_nil ?_
    change wpList _ _ _ _ _ w2.drew
    replace hix := hix.drewN 1
    replace gr := gdrewN gr 1
    change Ix B w2.drew _ _ _ _ _ _ at hix
    change w.grownBy w2.drew _ at gr
    clear cx0 cx1 cx2
    generalize w2.drew = w3 at *
    go_wp2_with fail
    refine (pputword_any g l _ N _ hix.pm).mono ?_
    rintro e w4 ⟨rfl, hp4, gr4⟩
    rw [HPW.out]
    have hix4 := hix.mem hp4 (pwL_len _ _ _) gr4
    go_wp2_with fail
    go_ret2
    exact ⟨rfl, hix4, gtrans gr gr4⟩
end

end Go.Proofs.Ytggdbiniklchoaa

namespace Go.Proofs.Ytggdbiniklchoaa
open Go.RowKit
set_option linter.unusedVariables false
set_option maxRecDepth 100000

theorem lfB_pos {l : List UInt8} {r i : Int} (h : lfB l r i = true) : ¬ (lfI l r i < 0) ∧ lfN l r i = lfI l r i := by
  have h' : 0 ≤ lfI l r i := by unfold lfB at h; simpa using h
  exact ⟨by omega, by unfold lfN; rw [if_pos h']⟩
theorem lfB_neg {l : List UInt8} {r i : Int} (h : lfB l r i = false) : lfI l r i < 0 := by unfold lfB at h; simp at h; omega
theorem frB_pos {l : List UInt8} {pl : List Int} (h : frB' l pl = true) : ¬ (freshI l pl < 0) ∧ frN l pl = freshI l pl := by
  have h' : 0 ≤ freshI l pl := by unfold frB' at h; simpa using h
  exact ⟨by omega, by unfold frN; rw [if_pos h']⟩
theorem frB_neg {l : List UInt8} {pl : List Int} (h : frB' l pl = false) : freshI l pl < 0 := by unfold frB' at h; simp at h; omega

section
variable (ps : List (List Int)) (l : List UInt8) (d p f m : Int)
theorem map_no (h : ioMapB ps l d p f m = false) : ioMapC ps l d p f m = 700 ∧ ioMapL ps l d p f m = l := by
  have e : ioMapC ps l d p f m = 700 := by unfold ioMapC; rw [h]; rfl
  exact ⟨e, by unfold ioMapL; rw [e]; rfl⟩
theorem map_lf (h : ioMapB ps l d p f m = true) (hb : lfB l (ioRoot ps d) (p / 16) = true) : ioMapC ps l d p f m = 0 ∧ ioMapL ps l d p f m = pwL l (lfN l (ioRoot ps d) (p / 16) * 64 + p % 16 * 4) (eN f m) := by
  obtain ⟨h1, h2⟩ := lfB_pos hb
  have e1 : ioMapF ps l d p = lfN l (ioRoot ps d) (p / 16) := by unfold ioMapF; rw [if_neg h1, h2]
  have e : ioMapC ps l d p f m = 0 := by unfold ioMapC; rw [h, if_pos rfl, e1, h2, if_neg h1]
  exact ⟨e, by unfold ioMapL; rw [e, if_pos rfl, e1, if_neg h1, Int.mul_comm 4 (p % 16)]⟩
theorem map_fr (h : ioMapB ps l d p f m = true) (hb : lfB l (ioRoot ps d) (p / 16) = false) (hc : frB' l (ioPool ps d) = true) : ioMapC ps l d p f m = 0 ∧ ioMapL ps l d p f m = pwL (addL7 l (ioPool ps d) p) (frN l (ioPool ps d) * 64 + p % 16 * 4) (eN f m) := by
  have h1 := lfB_neg hb
  obtain ⟨g1, g2⟩ := frB_pos hc
  have e1 : ioMapF ps l d p = frN l (ioPool ps d) := by unfold ioMapF; rw [if_pos h1, g2]
  have e : ioMapC ps l d p f m = 0 := by unfold ioMapC; rw [h, if_pos rfl, e1, g2, if_neg g1]
  refine ⟨e, ?_⟩
  unfold ioMapL addL7
  rw [e, if_pos rfl, e1, if_pos h1, if_pos hc, Int.mul_comm 4 (p % 16), Int.mul_comm 4 (p / 16)]
  rfl
theorem map_full (h : ioMapB ps l d p f m = true) (hb : lfB l (ioRoot ps d) (p / 16) = false) (hc : frB' l (ioPool ps d) = false) : ioMapC ps l d p f m = 701 ∧ ioMapL ps l d p f m = l := by
  have h1 := lfB_neg hb
  have g1 := frB_neg hc
  have e1 : ioMapF ps l d p = freshI l (ioPool ps d) := by unfold ioMapF; rw [if_pos h1]
  have e : ioMapC ps l d p f m = 701 := by unfold ioMapC; rw [h, if_pos rfl, e1, if_pos g1]
  exact ⟨e, by unfold ioMapL; rw [e]; rfl⟩
end

theorem addL7_len (l : List UInt8) (pl : List Int) (p : Int) : (addL7 l pl p).length = l.length := by
  unfold addL7; split
  · exact pwL_len _ _ _
  · rfl

/-- What a call that may turn memory and cache leaves. -/
def MpP (B : Nat) (x g t : Nat) (v : Value) (ps : List (List Int)) (l : List UInt8) (w : World) (c : Int) (e : Ending) (w' : World) : Prop :=
  e = .returned (.int .i64 c) ∧ Ix B w' x g t v ps l ∧ Cw w' t ∧ Tn g t w w'

section
variable {B : Nat} {x g t : Nat} {v : Value} {ps : List (List Int)} {l : List UInt8}
set_option maxHeartbeats 4000000 in
theorem map_any (d p f m : Int) (w : World) (h : Ix B w x g t v ps l) (hc : Cw w t) :
    Calls Try.prog 16 #[.pointer (some ⟨x, 0, none⟩), .int .i64 d, .int .i64 p, .agg #[.int .i64 f, .int .i64 m]] w (MpP B x g t v ps (ioMapL ps l d p f m) w (ioMapC ps l d p f m)) := by
  obtain ⟨M, hm1, hm2, hm, hf⟩ := h.frs
  have hB : ioMapB ps l d p f m = (thB ps.length d p && decide (1 ≤ m ∧ m ≤ 3 ∧ 0 ≤ f ∧ f < 64 ∧ f < frs l)) := rfl
  have hw := h.alloc (.cells #[.int .i64 f, .int .i64 m] 46)
  have hcw := hc.alloc (.cells #[.int .i64 f, .int .i64 m] 46)
  have htn : Tn g t w (w.alloc (.cells #[.int .i64 f, .int .i64 m] 46)) := Tn.of ((Below.refl _ _).alloc (Nat.le_refl _) _) g t
  have hblk := Blk.new w 46 [.int .i64 f, .int .i64 m]
  change Blk (w.alloc (.cells #[.int .i64 f, .int .i64 m] 46)) _ _ _ at hblk
  rw [hf] at hB
  obtain ⟨cx0, cx1, cx2⟩ := hw.cells
  obtain ⟨e0, e1, _, _⟩ := two_at hblk
  generalize hw1 : w.alloc (.cells #[.int .i64 f, .int .i64 m] 46) = w1 at *
  have HW1 := Lib.hid hw1; clear hw1
  have KP := Lib.hid (fun k => ispage_any (B := B) (x := x) (g := g) (t := t) (v := v) (ps := ps) (l := l) d p (w1.drewN k) (hw.drewN k))
  have KF : Hid (∀ k, Calls Try.prog 24 #[.pointer (some ⟨g, 0, none⟩)] (w1.drewN k) fun e w' => e = .returned (.int .i64 M) ∧ w1.drewN k = w') := Lib.hid fun k => by
    have := framesOf_any (l := l) _ (hw.pm.drewN k)
    rw [hf] at this
    exact this
  have hthd : thB ps.length d p = true → 0 ≤ d ∧ d < ps.length ∧ 0 ≤ p ∧ p < 256 := by unfold thB; simp only [decide_eq_true_eq]; exact id
  cases hth : thB ps.length d p with
  | false =>
    have HB : ioMapB ps l d p f m = false := by rw [hB, hth]; rfl
    have hkp := KP.out
    rw [hth] at hkp
    have KPc := Lib.hid hkp
    have hn := map_no ps l d p f m HB
    rw [hn.1, hn.2]
    clear hn HB
    clear KP hkp hB hth hthd h hc hf hm
    go_enter Try.func16, Try.ntmps16
    go_wp2_with fail
    rw [HW1.out]
    go_quiet ((first
      | (go_at_call 39; first | exact quiet_at KPc.out | exact quiet_at_a KPc.out)
      | (go_at_call 24; first | exact quiet_at KF.out | exact quiet_at_a KF.out)))
    go_wp2_with fail
    go_ret
    exact ⟨rfl, hw.drewN nq, hcw.drewN nq, htn.drewN nq⟩

  | true =>
    obtain ⟨h0, h1, hp0, hp1⟩ := hthd hth
    have hkp := KP.out
    rw [hth] at hkp
    have KPc := Lib.hid hkp
    by_cases hm0 : m = 0
    · subst hm0
      have HB : ioMapB ps l d p f 0 = false := by rw [hB, hth, Bool.true_and, decide_eq_false_iff_not]; omega
      have hn := map_no ps l d p f 0 HB
      rw [hn.1, hn.2]
      clear hn HB
      clear KP hkp hB hth hthd h hc hf hm
      go_enter Try.func16, Try.ntmps16
      go_wp2_with fail
      rw [HW1.out]
      go_quiet ((first
        | (go_at_call 39; first | exact quiet_at KPc.out | exact quiet_at_a KPc.out)
        | (go_at_call 24; first | exact quiet_at KF.out | exact quiet_at_a KF.out)))
      go_wp2_with fail
      go_ret
      exact ⟨rfl, hw.drewN nq, hcw.drewN nq, htn.drewN nq⟩

    · have hd1 : (m == 0) = false := by simpa using hm0
      have hd2 : decide (m = 0) = false := decide_eq_false hm0
      by_cases hfM : f < (M : Int)
      · have hd3 : decide ((M : Int) ≤ f) = false := decide_eq_false (by omega)
        cases hE : eB f m with
        | false =>
          have HB : ioMapB ps l d p f m = false := by
            rw [hB, hth]
            unfold eB at hE
            simp only [decide_eq_false_iff_not] at hE
            exact decide_eq_false (by omega)
          have hE4 : e4 (eB f m) = 400 := by rw [hE]; rfl
          have HE := Lib.hid hE4
          have hn := map_no ps l d p f m HB
          rw [hn.1, hn.2]
          clear hn HB
          clear KP hkp hB hth hthd h hc hf hm hE hE4 hm0
          go_enter Try.func16, Try.ntmps16
          go_wp2_with fail
          rw [HW1.out]
          go_quiet ((first
            | (go_at_call 39; first | exact quiet_at KPc.out | exact quiet_at_a KPc.out)
            | (go_at_call 24; first | exact quiet_at KF.out | exact quiet_at_a KF.out)))
          go_wp2_with fail
          generalize hN : eN f m = N
          refine (eput_is f m N 400 _ hN HE.out).mono ?_
          rintro e w2 ⟨rfl, b2⟩
          replace hw := (hw.drewN nq).below b2 (Nat.le_refl _)
          replace hcw := (hcw.drewN nq).below b2
          replace htn := (htn.drewN nq).far b2
          clear hN b2
          go_wp2_with fail
          go_ret
          exact ⟨rfl, hw, hcw, htn⟩
        | true =>
          have hE' : 1 ≤ m ∧ m ≤ 3 ∧ 0 ≤ f ∧ f < 64 := by unfold eB at hE; simp only [decide_eq_true_eq] at hE; omega
          have HB : ioMapB ps l d p f m = true := by rw [hB, hth]; exact decide_eq_true (by omega)
          have hE4 : e4 (eB f m) = 0 := by rw [hE]; rfl
          have HE := Lib.hid hE4
          have hbd := eN_bounds f m hE'.2.2.1 hE'.2.2.2 hE'.1 hE'.2.1
          obtain ⟨hmem, _, _, hr0, hr1⟩ := h.pool h0 h1
          have KL := Lib.hid (fun W hW => leafOf_any (B := B) (x := x) (g := g) (t := t) (v := v) (ps := ps) (l := l) d p W hW h0 h1 hp0 hp1)
          have KA := Lib.hid (fun W hW => addLeaf_any (B := B) (x := x) (g := g) (t := t) (v := v) (ps := ps) (l := l) d p W hW h0 h1 hp0 hp1)
          have hlf := map_lf ps l d p f m HB
          have hfr := map_fr ps l d p f m HB
          have hfu := map_full ps l d p f m HB
          have hfm := fresh_mem l (ioPool ps d)
          have hpin := h.inr _ hmem
          have hlfr : lfB l (ioRoot ps d) (p / 16) = true → 0 ≤ lfN l (ioRoot ps d) (p / 16) ∧ lfN l (ioRoot ps d) (p / 16) < M := by
            intro hb
            rcases lf_cases l (ioRoot ps d) (p / 16) M hm with ⟨_, _, e, _⟩ | ⟨_, _, _, e, _⟩ | ⟨_, _, _, _, e, _⟩ | ⟨_, _, q1, q2, q3, _⟩
            · rw [e] at hb; cases hb
            · rw [e] at hb; cases hb
            · rw [e] at hb; cases hb
            · rw [q3]; exact ⟨q2, q1⟩
          have hal := addL7_len l (ioPool ps d) p
          have hal2 : frB' l (ioPool ps d) = false → addL7 l (ioPool ps d) p = l := by intro e; unfold addL7; rw [e]; rfl
          rw [hf] at hpin
          generalize ioMapC ps l d p f m = RC at *
          generalize ioMapL ps l d p f m = RL at *
          generalize ioRoot ps d = R at *
          generalize ioPool ps d = pl at *
          generalize addL7 l pl p = l1 at *
          generalize frN l pl = FN at *
          generalize frB' l pl = FB at *
          generalize lfN l R (p / 16) = LN at *
          generalize lfB l R (p / 16) = LB at *
          generalize hN : eN f m = N at *
          have HN := Lib.hid hN
          cases LB with
          | true =>
            obtain ⟨q1, q2⟩ := hlf rfl
            obtain ⟨g0, g1⟩ := hlfr rfl
            subst q1 q2
            have HPW := Lib.hid (pw_yes l (LN * 64 + p % 16 * 4) N (by omega) (by omega) (by omega) hbd.1 hbd.2)
            have HLP := Lib.hid (fun W => leafPlace_still LN p W g0 (by omega) hp0 hp1)
            clear KP hkp hB hth hthd h hc hf hm hE hE4 hm0 hlf hfr hfu hfm hpin hlfr hal hal2 hN HB hbd KA hmem
            go_enter Try.func16, Try.ntmps16
            go_wp2_with fail
            rw [HW1.out]
            go_quiet ((first
              | (go_at_call 39; first | exact quiet_at KPc.out | exact quiet_at_a KPc.out)
              | (go_at_call 24; first | exact quiet_at KF.out | exact quiet_at_a KF.out)))
            go_wp2_with fail
            refine (eput_is f m N 0 _ HN.out HE.out).mono ?_
            rintro e w2 ⟨rfl, b2⟩
            replace hw := (hw.drewN nq).below b2 (Nat.le_refl _)
            replace hcw := (hcw.drewN nq).below b2
            replace htn := (htn.drewN nq).far b2
            clear b2 cx0 cx1 cx2 KF KPc hblk e0 e1
            go_wp2_with fail
            refine (KL.out _ hw).mono ?_
            rintro e w3 ⟨rfl, b3⟩
            replace hw := hw.below b3 (Nat.le_refl _)
            replace hcw := hcw.below b3
            replace htn := htn.far b3
            clear b3 KL
            obtain ⟨Lc, hpt, hL⟩ := hcw
            obtain ⟨cx0, cx1, cx2⟩ := hw.cells
            go_wp2_with fail
            refine (pdrop_any t 16 Lc d p _ hpt).mono ?_
            rintro e w5 ⟨rfl, hpt5, gr5⟩
            replace hw := hw.turn hpt gr5
            replace htn := htn.snd gr5
            replace hL := hL.filter (fun x => !isK d p x)
            clear hpt gr5 cx0 cx1 cx2
            generalize (Lc.filter fun x => !isK d p x) = Ld at *
            obtain ⟨cx0, cx1, cx2⟩ := hw.cells
            go_wp2_with fail
            go_still_tail 8, (by kernel_rfl)
            still_call (HLP.out _)
            repeat still_step
            refine wpStill_nil ?_
            change wpList _ _ _ _ _ w5.drew
            replace hw := hw.drewN 1
            replace hpt5 := hpt5.drewN 1
            replace htn := htn.drewN 1
            change Ix B w5.drew _ _ _ _ _ _ at hw
            change PT w5.drew _ _ _ _ at hpt5
            change Tn g t w w5.drew at htn
            clear cx0 cx1 cx2
            generalize w5.drew = w6 at *
            go_wp2_with fail
            refine (pputword_any g l _ N _ hw.pm).mono ?_
            rintro e w7 ⟨rfl, hp7, gr7⟩
            rw [HPW.out]
            have hc7 : Cw w7 t := Cw.mem ⟨Ld, hpt5, hL⟩ hw gr7
            go_wp2_with fail
            go_ret
            exact ⟨rfl, hw.mem hp7 (pwL_len _ _ _) gr7, hc7, htn.fst gr7⟩

          | false =>
            clear hlf hlfr
            cases FB with
            | true =>
              obtain ⟨q1, q2⟩ := hfr rfl rfl
              have hg := hpin _ (hfm rfl)
              subst q1 q2
              have HPW := Lib.hid (pw_yes l1 (FN * 64 + p % 16 * 4) N (by omega) (by omega) (by omega) hbd.1 hbd.2)
              have HLP := Lib.hid (fun W => leafPlace_still FN p W hg.1 (by omega) hp0 hp1)
              clear KP hkp hB hth hthd h hc hf hm hE hE4 hm0 hfr hfu hfm hpin hal hal2 hN HB hbd hmem
              go_enter Try.func16, Try.ntmps16
              go_wp2_with fail
              rw [HW1.out]
              go_quiet ((first
                | (go_at_call 39; first | exact quiet_at KPc.out | exact quiet_at_a KPc.out)
                | (go_at_call 24; first | exact quiet_at KF.out | exact quiet_at_a KF.out)))
              go_wp2_with fail
              refine (eput_is f m N 0 _ HN.out HE.out).mono ?_
              rintro e w2 ⟨rfl, b2⟩
              replace hw := (hw.drewN nq).below b2 (Nat.le_refl _)
              replace hcw := (hcw.drewN nq).below b2
              replace htn := (htn.drewN nq).far b2
              clear b2 cx0 cx1 cx2 KF KPc hblk e0 e1
              go_wp2_with fail
              refine (KL.out _ hw).mono ?_
              rintro e w3 ⟨rfl, b3⟩
              replace hw := hw.below b3 (Nat.le_refl _)
              replace hcw := hcw.below b3
              replace htn := htn.far b3
              clear b3 KL
              go_wp2_with fail
              refine (KA.out _ hw).mono ?_
              rintro e w4 ⟨rfl, ix4, gr4⟩
              replace hcw := hcw.mem hw gr4
              replace hw := ix4
              replace htn := htn.fst gr4
              clear ix4 gr4 KA
              obtain ⟨Lc, hpt, hL⟩ := hcw
              obtain ⟨cx0, cx1, cx2⟩ := hw.cells
              go_wp2_with fail
              refine (pdrop_any t 16 Lc d p _ hpt).mono ?_
              rintro e w5 ⟨rfl, hpt5, gr5⟩
              replace hw := hw.turn hpt gr5
              replace htn := htn.snd gr5
              replace hL := hL.filter (fun x => !isK d p x)
              clear hpt gr5 cx0 cx1 cx2
              generalize (Lc.filter fun x => !isK d p x) = Ld at *
              obtain ⟨cx0, cx1, cx2⟩ := hw.cells
              go_wp2_with fail
              go_still_tail 8, (by kernel_rfl)
              still_call (HLP.out _)
              repeat still_step
              refine wpStill_nil ?_
              change wpList _ _ _ _ _ w5.drew
              replace hw := hw.drewN 1
              replace hpt5 := hpt5.drewN 1
              replace htn := htn.drewN 1
              change Ix B w5.drew _ _ _ _ _ _ at hw
              change PT w5.drew _ _ _ _ at hpt5
              change Tn g t w w5.drew at htn
              clear cx0 cx1 cx2
              generalize w5.drew = w6 at *
              go_wp2_with fail
              refine (pputword_any g l1 _ N _ hw.pm).mono ?_
              rintro e w7 ⟨rfl, hp7, gr7⟩
              rw [HPW.out]
              have hc7 : Cw w7 t := Cw.mem ⟨Ld, hpt5, hL⟩ hw gr7
              go_wp2_with fail
              go_ret
              exact ⟨rfl, hw.mem hp7 (pwL_len _ _ _) gr7, hc7, htn.fst gr7⟩

            | false =>
              obtain ⟨q1, q2⟩ := hfu rfl rfl
              subst q1 q2
              have hl1 := Lib.hid (hal2 rfl)
              clear KP hkp hB hth hthd h hc hf hm hE hE4 hm0 hfr hfu hfm hpin hal hal2 hN HB hbd hmem
              go_enter Try.func16, Try.ntmps16
              go_wp2_with fail
              rw [HW1.out]
              go_quiet ((first
                | (go_at_call 39; first | exact quiet_at KPc.out | exact quiet_at_a KPc.out)
                | (go_at_call 24; first | exact quiet_at KF.out | exact quiet_at_a KF.out)))
              go_wp2_with fail
              refine (eput_is f m N 0 _ HN.out HE.out).mono ?_
              rintro e w2 ⟨rfl, b2⟩
              replace hw := (hw.drewN nq).below b2 (Nat.le_refl _)
              replace hcw := (hcw.drewN nq).below b2
              replace htn := (htn.drewN nq).far b2
              clear b2 cx0 cx1 cx2 KF KPc hblk e0 e1
              go_wp2_with fail
              refine (KL.out _ hw).mono ?_
              rintro e w3 ⟨rfl, b3⟩
              replace hw := hw.below b3 (Nat.le_refl _)
              replace hcw := hcw.below b3
              replace htn := htn.far b3
              clear b3 KL
              go_wp2_with fail
              refine (KA.out _ hw).mono ?_
              rintro e w4 ⟨rfl, ix4, gr4⟩
              replace hcw := hcw.mem hw gr4
              replace htn := htn.fst gr4
              go_wp2_with fail
              go_ret
              exact ⟨rfl, by rw [← hl1.out]; exact ix4, hcw, htn⟩
      · have hd3 : decide ((M : Int) ≤ f) = true := decide_eq_true (by omega)
        have HB : ioMapB ps l d p f m = false := by rw [hB, hth]; exact decide_eq_false (by omega)
        have hn := map_no ps l d p f m HB
        rw [hn.1, hn.2]
        clear hn HB
        clear KP hkp hB hth hthd h hc hf hm
        go_enter Try.func16, Try.ntmps16
        go_wp2_with fail
        rw [HW1.out]
        go_quiet ((first
          | (go_at_call 39; first | exact quiet_at KPc.out | exact quiet_at_a KPc.out)
          | (go_at_call 24; first | exact quiet_at KF.out | exact quiet_at_a KF.out)))
        go_wp2_with fail
        go_ret
        exact ⟨rfl, hw.drewN nq, hcw.drewN nq, htn.drewN nq⟩

end

end Go.Proofs.Ytggdbiniklchoaa

namespace Go.Proofs.Ytggdbiniklchoaa
open Go.RowKit
set_option linter.unusedVariables false
set_option maxRecDepth 100000

theorem un_no (ps : List (List Int)) (l : List UInt8) (d p : Int) (h : ioUnC ps l d p ≠ 0) : ioUnL ps l d p = l := by unfold ioUnL; rw [if_neg h]
theorem un_leaf (l : List UInt8) (r p : Int) (m : Nat) (hm : l.length = 64 * m) (hr0 : 0 ≤ r) (hr1 : r < m) (hp0 : 0 ≤ p) (hp1 : p < 256) (h : uC l r p = 0) : lfB l r (p / 16) = true ∧ lfN l r (p / 16) = lfI l r (p / 16) ∧ 0 ≤ lfN l r (p / 16) ∧ lfN l r (p / 16) < m := by
  have hw : wC l r p = 0 := by
    rcases walk_two l r p m hm hr0 hr1 hp0 hp1 with ⟨e, _⟩ | ⟨_, _, _, e⟩
    · exact e
    · rw [e] at h; split at h <;> omega
  have hb : lfB l r (p / 16) = true := by
    rcases w_cases l r p with ⟨_, h1, _⟩ | ⟨_, h1, h2, _⟩ | ⟨_, _, _, h1, _⟩ | ⟨_, h1, h2, _⟩
    · omega
    · omega
    · omega
    · unfold lfB lfI
      rw [if_pos ⟨h1, h2⟩]
      exact decide_eq_true (s_bounds l r (p / 16) m hm h1).1
  refine ⟨hb, (lfB_pos hb).2, ?_⟩
  rcases lf_cases l r (p / 16) m hm with ⟨_, _, e, _⟩ | ⟨_, _, _, e, _⟩ | ⟨_, _, _, _, e, _⟩ | ⟨_, _, q1, q2, q3, _⟩
  · rw [e] at hb; cases hb
  · rw [e] at hb; cases hb
  · rw [e] at hb; cases hb
  · rw [q3]; exact ⟨q2, q1⟩

theorem PL.row {w : World} {B : Nat} {v : Value} {ps : List (List Int)} (h : PL w B v ps) (i : Nat) (hi : i < ps.length) :
    ∃ b cap u, v = .slice (some ⟨b, 0, none⟩) ps.length cap ∧ w.cell? ⟨b, i, none⟩ = some u ∧ w.ownsRow B 3 1 u (ps.getD i []).length (ints (ps.getD i [])) := by
  obtain ⟨vs, ⟨hl, ⟨_, hn⟩ | ⟨b, cap, cur, rfl, hb, hg, hnc, _, hsz, ht⟩⟩, h2⟩ := h
  · omega
  · obtain ⟨u, e, hu⟩ := h2 i hi
    refine ⟨b, cap, u, rfl, ?_, hu⟩
    rw [cell_of_row w b i cur _ (0, 0) hg, ← e, ← ht, List.getElem?_take, if_pos (by omega)]
    simp

section
variable {B : Nat} {x g t : Nat} {v : Value} {ps : List (List Int)} {l : List UInt8}
set_option maxHeartbeats 4000000 in
theorem unmap_any (d p : Int) (w : World) (h : Ix B w x g t v ps l) (hc : Cw w t) :
    Calls Try.prog 18 #[.pointer (some ⟨x, 0, none⟩), .int .i64 d, .int .i64 p] w (MpP B x g t v ps (ioUnL ps l d p) w (ioUnC ps l d p)) := by
  have hthd : thB ps.length d p = true → 0 ≤ d ∧ d < ps.length ∧ 0 ≤ p ∧ p < 256 := by unfold thB; simp only [decide_eq_true_eq]; exact id
  have hpg := ispage_any d p w h
  have hU : ioUnC ps l d p = if thB ps.length d p then uC l (ioRoot ps d) p else 700 := rfl
  have hno := un_no ps l d p
  cases hth : thB ps.length d p with
  | false =>
    rw [hth] at hpg hU
    have e1 : ioUnC ps l d p = 700 := hU
    rw [hno (by omega), e1]
    have HP := Lib.hid hpg
    clear hth hthd hU hno e1 hpg
    go_enter Try.func18, Try.ntmps18
    go_wp2_with fail
    refine HP.out.mono ?_
    rintro e w1 ⟨rfl, rfl⟩
    go_wp2_with fail
    go_ret
    exact ⟨rfl, h, hc, Tn.refl _ _ _⟩
  | true =>
    rw [hth] at hpg hU
    obtain ⟨h0, h1, hp0, hp1⟩ := hthd hth
    obtain ⟨m, hm1, hm2, hm, hf⟩ := h.frs
    obtain ⟨_, _, _, hr0, hr1⟩ := h.pool h0 h1
    rw [hf] at hr1
    have hE := entryOf_any d p w h hc h0 h1 hp0 hp1
    have hlf := un_leaf l (ioRoot ps d) p m hm hr0 hr1 hp0 hp1
    have hL0 : ioUnC ps l d p = 0 → ioUnL ps l d p = pwL l (lfI l (ioRoot ps d) (p / 16) * 64 + p % 16 * 4) 0 := by intro e; unfold ioUnL; rw [if_pos e, Int.mul_comm 4 (p % 16)]
    have KL := Lib.hid (fun W hW => leafOf_any (B := B) (x := x) (g := g) (t := t) (v := v) (ps := ps) (l := l) d p W hW h0 h1 hp0 hp1)
    have hU' : ioUnC ps l d p = uC l (ioRoot ps d) p := hU
    generalize ioRoot ps d = R at *
    have HP := Lib.hid hpg; have HE := Lib.hid hE
    rw [hU'] at hno hL0 ⊢
    clear hth hthd hU hpg hE hU'
    by_cases hu : uC l R p = 0
    · obtain ⟨hb, hn, hF0, hF1⟩ := hlf hu
      rw [hL0 hu, ← hn, hu]
      generalize lfN l R (p / 16) = F at *
      generalize lfB l R (p / 16) = LB at *
      subst hb
      have HU := Lib.hid hu
      have HPW := Lib.hid (pw_yes l (F * 64 + p % 16 * 4) 0 (by omega) (by omega) (by omega) (by omega) (by omega))
      have HLP := Lib.hid (fun W => leafPlace_still F p W hF0 (by omega) hp0 hp1)
      clear hL0 hno hlf hn hu hm hf h hc
      go_enter Try.func18, Try.ntmps18
      go_wp2_with fail
      refine HP.out.mono ?_
      rintro e w1 ⟨rfl, rfl⟩
      go_wp2_with fail
      refine HE.out.mono ?_
      rintro e w2 ⟨rfl, hw, hcw, gr⟩
      rw [HU.out]
      have htn := (Tn.refl g t w).snd gr
      replace hw := hw.alloc (.cells #[.int .i64 (wF l R p), .int .i64 (wP l R p)] 46)
      replace hcw := hcw.alloc (.cells #[.int .i64 (wF l R p), .int .i64 (wP l R p)] 46)
      replace htn := htn.far ((Below.refl _ _).alloc (Nat.le_refl _) (.cells #[.int .i64 (wF l R p), .int .i64 (wP l R p)] 46))
      obtain ⟨cx0, cx1, cx2⟩ := hw.cells
      clear gr
      go_wp2_with fail
      generalize w2.alloc (.cells #[.int .i64 (wF l R p), .int .i64 (wP l R p)] 46) = w3 at *
      obtain ⟨Lc, hpt, hL⟩ := hcw
      refine (pdrop_any t 16 Lc d p _ hpt).mono ?_
      rintro e w5 ⟨rfl, hpt5, gr5⟩
      replace hw := hw.turn hpt gr5
      replace htn := htn.snd gr5
      replace hL := hL.filter (fun x => !isK d p x)
      clear hpt gr5 cx0 cx1 cx2
      generalize (Lc.filter fun x => !isK d p x) = Ld at *
      go_wp2_with fail
      refine (KL.out _ hw).mono ?_
      rintro e w6 ⟨rfl, b6⟩
      replace hw := hw.below b6 (Nat.le_refl _)
      replace hpt5 := hpt5.below b6 hpt5.lt
      replace htn := htn.far b6
      clear b6 KL
      obtain ⟨cx0, cx1, cx2⟩ := hw.cells
      go_wp2_with fail
      go_still_tail 7, (by kernel_rfl)
      still_call (HLP.out _)
      repeat still_step
      refine wpStill_nil ?_
      change wpList _ _ _ _ _ w6.drew
      replace hw := hw.drewN 1
      replace hpt5 := hpt5.drewN 1
      replace htn := htn.drewN 1
      change Ix B w6.drew _ _ _ _ _ _ at hw
      change PT w6.drew _ _ _ _ at hpt5
      change Tn g t w w6.drew at htn
      clear cx0 cx1 cx2
      generalize w6.drew = w7 at *
      go_wp2_with fail
      refine (pputword_any g l _ 0 _ hw.pm).mono ?_
      rintro e w8 ⟨rfl, hp8, gr8⟩
      rw [HPW.out]
      have hc8 : Cw w8 t := Cw.mem ⟨Ld, hpt5, hL⟩ hw gr8
      go_wp2_with fail
      go_ret
      exact ⟨rfl, hw.mem hp8 (pwL_len _ _ _) gr8, hc8, htn.fst gr8⟩
    · rw [hno hu]
      generalize uC l R p = C at *
      have hc1 : (C == 0) = false := by simpa using hu
      have hc2 : (C != 0) = true := by simpa using hu
      clear hL0 hno hlf hm hf h hc hu
      go_enter Try.func18, Try.ntmps18
      go_wp2_with fail
      refine HP.out.mono ?_
      rintro e w1 ⟨rfl, rfl⟩
      go_wp2_with fail
      refine HE.out.mono ?_
      rintro e w2 ⟨rfl, hw, hcw, gr⟩
      have htn := (Tn.refl g t w).snd gr
      go_wp2_with fail
      go_ret
      exact ⟨rfl, hw.alloc _, hcw.alloc _, htn.far ((Below.refl _ _).alloc (Nat.le_refl _) _)⟩

set_option maxHeartbeats 4000000 in
theorem clear_any (d : Int) (w : World) (h : Ix B w x g t v ps l) (hc : Cw w t) :
    Calls Try.prog 35 #[.pointer (some ⟨x, 0, none⟩), .int .i64 d] w (MpP B x g t v ps (ioClL ps l d) w (ioClC ps d)) := by
  have hdv := isdev_any d w h
  have hth : thB ps.length d 0 = dvB ps.length d := by unfold thB dvB; congr 1; simp
  have hC : ioClC ps d = if dvB ps.length d then 0 else 700 := by rw [← hth]; rfl
  have hL : ioClL ps l d = if dvB ps.length d then (ioPool ps d).foldl zeL l else l := by rw [← hth]; rfl
  have HD := Lib.hid hdv
  rw [hC, hL]
  clear hC hL hth hdv
  cases hdb : dvB ps.length d with
  | false =>
    have hI := h
    have HDB := Lib.hid hdb
    clear hdb
    go_enter Try.func35, Try.ntmps35
    go_wp2_with fail
    refine HD.out.mono ?_
    rintro e w1 ⟨rfl, rfl⟩
    rw [HDB.out]
    go_wp2_with fail
    go_ret
    exact ⟨rfl, hI, hc, Tn.refl _ _ _⟩
  | true =>
    have hd : 0 ≤ d ∧ d < ps.length := by unfold dvB at hdb; simpa using hdb
    have HDB := Lib.hid hdb
    obtain ⟨h0, h1⟩ := hd
    obtain ⟨m, hm1, hm2, hm, hf⟩ := h.frs
    obtain ⟨hmem, hpl, hpl5, _, _⟩ := h.pool h0 h1
    obtain ⟨k, rfl⟩ := Int.eq_ofNat_of_zero_le h0
    have hkn : k < ps.length := by omega
    have hP : ps.getD k [] = ioPool ps ((k : Nat) : Int) := by unfold ioPool; rw [Int.toNat_natCast]
    have hn4 := h.n4
    obtain ⟨cx0, cx1, cx2⟩ := h.cells
    generalize ioPool ps ((k : Nat) : Int) = pl at *
    have HP := Lib.hid hP
    clear hdb hf hP hmem
    go_enter Try.func35, Try.ntmps35
    go_wp2_with fail
    refine HD.out.mono ?_
    rintro e w1 ⟨rfl, rfl⟩
    rw [HDB.out]
    go_wp2_with fail
    obtain ⟨Lc, hpt, hL⟩ := hc
    refine (pall_any t 16 Lc (k : Int) _ hpt).mono ?_
    rintro e w2 ⟨rfl, hpt2, gr2⟩
    have hw := h.turn hpt gr2
    have htn := (Tn.refl g t w).snd gr2
    replace hL := hL.filter (fun x => !isD (k : Int) x)
    clear hpt gr2 h cx0 cx1 cx2
    generalize (Lc.filter fun x => !isD (k : Int) x) = Ld at *
    obtain ⟨b, cap, u, hv, hcu, hown⟩ := hw.pl.row k hkn
    subst hv
    rw [HP.out] at hown
    obtain ⟨cx0, cx1, cx2⟩ := hw.cells
    go_wp2_with fail
    refine (zero_any u B pl.length pl l _ _ hw.sx hw.pm hown hpl5).mono ?_
    rintro e w3 ⟨rfl, hp3, gr3⟩
    have hc3 : Cw w3 t := Cw.mem ⟨Ld, hpt2, hL⟩ hw gr3
    go_wp2_with fail
    go_ret
    exact ⟨rfl, hw.mem hp3 (zes_len _ _ (by omega)) gr3, hc3, htn.fst gr3⟩
end

end Go.Proofs.Ytggdbiniklchoaa
