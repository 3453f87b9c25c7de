/-
  Layer 8's law Logs: it answers true for every input.
-/
import Derived.Test.YtnlifmeikbgilaaLogAwake
import Derived.Test.YtnlifmeikbgilaaLog2
import Derived.Test.YtnlifmeikbgilaaPlain2
import Derived.Test.YtnlifmeikbgilaaArgs
namespace Go.Proofs.Ytnlifmeikbgilaa
open Go.RowKit Go.ChangeShapes Go.WideShapes Go.Deep
set_option linter.unusedVariables false
set_option maxRecDepth 100000

/-- A field of one cell that is a bool, out of a struct's cells. -/
theorem fld_bool {H : Type} {enc : TypeId × Value → H} {P : Program} {W : World} {e : TypeId} {fs : Array Field} {m : Nat} {cs : List Value} {y : DataW H × List MemPlace} (he : P.underlying e = some (.struct fs)) (hy : DataW.trod enc P W 0 (fun _ => true) true m e cs = some y)
    (k o : Nat) (f : Field) (hk : fs[k]? = some f) (ho : f.offset = o) (hc : P.cellsOf f.type = 1) (hu : P.underlying f.type = some .bool) : ∃ b : Bool, cs[o]? = some (.bool b) := by
  obtain ⟨ys, m', _, _, hlen, hyl, hf⟩ := DataW.trod_struct he hy
  have hkl : k < ys.length := by rw [hyl]; exact (Array.getElem?_eq_some_iff.1 hk).1
  have h1 := hf _ f hk
  rw [ho, hc, List.getElem?_eq_getElem hkl] at h1
  obtain ⟨b, hz, _⟩ := DataW.trod_bool hu h1
  refine ⟨b, ?_⟩
  have g : ((cs.drop o).take 1)[0]? = some (Value.bool b) := by rw [hz]; rfl
  rw [List.getElem?_take, if_pos (by omega), List.getElem?_drop] at g
  exact g

/-- The k-th fault of a row. -/
def FltAt (xs : List Value) (i : Nat) : Prop := ∃ x : Fl, xs[i * 5]? = some (.int .i64 x.t) ∧ xs[i * 5 + 1]? = some (.int .i64 x.d) ∧ xs[i * 5 + 2]? = some (.int .i64 x.i) ∧ xs[i * 5 + 3]? = some (.bool x.w) ∧ xs[i * 5 + 4]? = some (.int .i64 x.c)
theorem flts_of {H : Type} {enc : TypeId × Value → H} {W : World} {n : Nat} {xs : List Value}
    (hr : ∀ i, i < n → ∃ (m : Nat) (y : DataW H × List MemPlace), DataW.trod enc Try.prog W 0 (fun _ => true) true m 34 ((xs.drop (i * 5)).take 5) = some y) : ∀ i, i < n → FltAt xs i := by
  intro i hi
  obtain ⟨m, y, hy⟩ := hr i hi
  obtain ⟨a, ha, _⟩ := fld_int (P := Try.prog) Try.underlying34 hy 0 0 _ rfl rfl (by kernel_rfl) Try.underlying3
  obtain ⟨b, hb, _⟩ := fld_int (P := Try.prog) Try.underlying34 hy 1 1 _ rfl rfl (by kernel_rfl) Try.underlying3
  obtain ⟨c, hc, _⟩ := fld_int (P := Try.prog) Try.underlying34 hy 2 2 _ rfl rfl (by kernel_rfl) Try.underlying3
  obtain ⟨d, hd⟩ := fld_bool (P := Try.prog) Try.underlying34 hy 3 3 _ rfl rfl (by kernel_rfl) Try.underlying4
  obtain ⟨e, he, _⟩ := fld_int (P := Try.prog) Try.underlying34 hy 4 4 _ rfl rfl (by kernel_rfl) Try.underlying3
  rw [elem_at _ _ _ _ (by omega)] at ha hb hc hd he
  exact ⟨⟨a, b, c, d, e⟩, ha, hb, hc, hd, he⟩

/-- An Add, whatever the log holds. -/
theorem ladd_any (g c : Nat) (l : List Fl) (k : Nat) (x : Fl) (w : World) (h : PF w g c l k) (h2 : c ≤ 16) (hk : k ≤ 65535) :
    Calls Try.prog 9 #[.pointer (some ⟨g, 0, none⟩), .agg #[.int .i64 x.t, .int .i64 x.d, .int .i64 x.i, .bool x.w, .int .i64 x.c]] w fun e w' => e = .returned (.tuple #[]) ∧ PF w' g c (addF c l x) (addK c l k) ∧ w.grownBy w' (some g) := by
  by_cases hc : c ≤ l.length
  · unfold addF addK; rw [if_pos hc, if_pos hc]; exact ladd_full g c l k x w h hc hk
  · unfold addF addK; rw [if_neg hc, if_neg hc]; exact ladd_room g c l k x w h (by omega) h2
theorem rladd_any (B r c : Nat) (v : Value) (l : List Fl) (k : Nat) (x : Fl) (w : World) (h : RF w B r c v l k) (hB : B ≤ w.heap.size) (h2 : c ≤ 16) (hk : k ≤ 65535) :
    Calls Try.prog 10 #[.pointer (some ⟨r, 0, none⟩), .agg #[.int .i64 x.t, .int .i64 x.d, .int .i64 x.i, .bool x.w, .int .i64 x.c]] w fun e w' => e = .returned (.tuple #[]) ∧ (∃ v', RF w' B r c v' (addF c l x) (addK c l k)) ∧ (∀ i, i < w.heap.size → i ≠ r → some i ≠ v.ownBlock → w'.heap[i]? = w.heap[i]?) ∧ Below (min B r) w w' := by
  by_cases hc : c ≤ l.length
  · unfold addF addK; rw [if_pos hc, if_pos hc]
    refine (rladd_full B r c v l k x w h hc hk).mono ?_
    rintro e w' ⟨he, hr, hg⟩
    exact ⟨he, ⟨v, hr⟩, fun i hi h1 _ => hg.block i hi (fun e => h1 (by injection e)), bone (Below.refl _ _) hg (by have := h.blk.lt; omega) (by omega)⟩
  · unfold addF addK; rw [if_neg hc, if_neg hc]; exact rladd_room B r c v l k x w h hB (by omega) h2
theorem addF_len (c : Nat) (l : List Fl) (x : Fl) (h : l.length ≤ c) : (addF c l x).length ≤ c := by unfold addF; split <;> (try rw [List.length_append, List.length_singleton]) <;> omega
theorem addK_le (c : Nat) (l : List Fl) (k : Nat) (h : k ≤ 65535) : addK c l k ≤ 65535 := by unfold addK; split <;> omega

/-- Both logs say the same. -/
structure Two8 (g r c : Nat) (w wq : World) (B : Nat) (v : Value) (l : List Fl) (k : Nat) : Prop where
  pf : PF wq g c l k
  rf : RF wq B r c v l k
  hl : l.length ≤ c
  hk : k ≤ 65535
  hb : Below w.heap.size w wq
  hg : w.heap.size ≤ g
  hr : w.heap.size ≤ r
  hB : w.heap.size ≤ B
  hq : B ≤ wq.heap.size

section
variable {g r c : Nat} {w wq w' : World} {B : Nat} {v : Value} {l : List Fl} {k : Nat}
theorem Two8.gr (h : Two8 g r c w wq B v l k) : g ≠ r := h.pf.apart h.rf.blk (by decide)
theorem Two8.gv (h : Two8 g r c w wq B v l k) : v.ownBlock ≠ some g := by obtain ⟨z, _, hb⟩ := h.pf; exact own_apart_blk h.rf.own hb (by decide)
theorem Two8.drewN (h : Two8 g r c w wq B v l k) (n : Nat) : Two8 g r c w (wq.drewN n) B v l k := ⟨h.pf.drewN n, h.rf.drewN n, h.hl, h.hk, bdrewN h.hb n, h.hg, h.hr, h.hB, h.hq⟩
theorem Two8.below (h : Two8 g r c w wq B v l k) (hb : Below wq.heap.size wq w') : Two8 g r c w w' B v l k := ⟨h.pf.below hb h.pf.lt, h.rf.below hb, h.hl, h.hk, Below.down h.hb hb h.hb.size, h.hg, h.hr, h.hB, Nat.le_trans h.hq hb.size⟩
theorem Two8.grown {row : Option Nat} (h : Two8 g r c w wq B v l k) (hg : wq.grownBy w' row) (h1 : some g ≠ row) (h2 : some r ≠ row) (h3 : v.ownBlock = none ∨ v.ownBlock ≠ row) (h4 : ∀ i, row = some i → w.heap.size ≤ i) : Two8 g r c w w' B v l k :=
  ⟨h.pf.grown hg h1, h.rf.grown hg h2 h3, h.hl, h.hk, h.hb.grown hg h.hb.size h4, h.hg, h.hr, h.hB, Nat.le_trans h.hq hg.size⟩
/-- Behind an Add to each. -/
theorem Two8.add {w1 w2 : World} {x : Fl} {v' : Value} (h : Two8 g r c w wq B v l k) (p1 : PF w1 g c (addF c l x) (addK c l k)) (g1 : wq.grownBy w1 (some g)) (r2 : RF w2 B r c v' (addF c l x) (addK c l k))
    (fr : ∀ i, i < w1.heap.size → i ≠ r → some i ≠ v.ownBlock → w2.heap[i]? = w1.heap[i]?) (b2 : Below (min B r) w1 w2) : Two8 g r c w w2 B v' (addF c l x) (addK c l k) := by
  have hs1 := g1.size
  have hs2 := b2.size
  have hq := h.hq
  have hB := h.hB; have hr := h.hr; have hg := h.hg; have hsb := h.hb.size
  have b1 := h.hb.grown g1 h.hb.size (fun i e => by injection e with e; omega)
  obtain ⟨z, hz, hb⟩ := p1
  exact ⟨⟨z, hz, (fr g hb.lt h.gr (fun e => h.gv e.symm)).trans hb⟩, r2, addF_len c l x h.hl, addK_le c l k h.hk, b1.trans (b2.mono (by omega)), hg, hr, hB, by omega⟩
end

set_option maxRecDepth 100000 in
set_option maxHeartbeats 2000000 in
theorem logs_no (c : Int) (v : Value) (t : Int) (w : World) (hc : ¬ (1 ≤ c ∧ c ≤ 16)) :
    Calls Try.prog 3 #[.int .i64 c, v, .int .i64 t] w fun e w' => e = .returned (.bool true) ∧ Below w.heap.size w w' := by
  have HC := Lib.hid hc; clear hc
  go_enter Try.func3, Try.ntmps3
  go_wp2_with fail
  refine (lnew_no _ _ HC.out).mono ?_
  rintro e w' ⟨rfl, rfl⟩
  go_wp2_with fail
  refine (rlnew_no _ _ HC.out).mono ?_
  rintro e w' ⟨rfl, rfl⟩
  go_wp2_with fail
  refine (num_any _ _).mono ?_
  rintro e w' ⟨rfl, rfl⟩
  go_wp2_with fail
  refine (lawake_any _).mono ?_
  rintro e wa ⟨rfl, ba⟩
  go_wp2_with fail
  go_ret
  exact ⟨rfl, ba⟩

set_option maxRecDepth 100000 in
set_option maxHeartbeats 4000000 in
theorem logs_yes (c : Int) (v : Value) (n : Nat) (xs : List Value) (t : Int) (w : World) (hv : Sl w v n 5 xs) (hn : n ≤ maxLen) (hr : ∀ i, i < n → FltAt xs i) (w2 : (Lit.int .i64 t).wf = true) (h1 : 1 ≤ c) (h2 : c ≤ 16) :
    Calls Try.prog 3 #[.int .i64 c, v, .int .i64 t] w fun e w' => e = .returned (.bool true) ∧ Below w.heap.size w w' := by
  obtain ⟨A, cap, rfl, hcap, hxl, hA⟩ := hv
  unfold maxLen at hn
  have HA := Lib.hid hA; have HR := Lib.hid hr; clear hA hr hxl
  obtain ⟨c, rfl⟩ := Int.eq_ofNat_of_zero_le (show 0 ≤ c by omega)
  have hc1 : 1 ≤ c := by omega
  have hc2 : c ≤ 16 := by omega
  clear h1 h2
  go_enter Try.func3, Try.ntmps3
  go_wp2_with fail
  refine (lnew_yes c _ hc1 hc2).mono ?_
  rintro e w1 ⟨rfl, t1, b1⟩
  go_wp2_with fail
  refine (rlnew_yes c _ hc1 hc2).mono ?_
  rintro e w2 ⟨rfl, r2, b2⟩
  have hs1 := b1.size
  have hs2 := b2.size
  have t2 : Two8 w.heap.size w1.heap.size c w w2 w1.heap.size (.slice none 0 0) [] 0 := ⟨t1.below b2 t1.lt, r2, by simp, by omega, Below.down b1 b2 hs1, by omega, hs1, hs1, hs2⟩
  have hg0 := t1.lt
  clear t1 r2 b1 b2
  generalize hgg : w.heap.size = g at t2 hg0 ⊢
  have HG := Lib.hid hgg; clear hgg
  generalize w1.heap.size = r at *
  go_wp2_with fail
  refine (num_any 0 _).mono ?_
  rintro e w' ⟨rfl, rfl⟩
  go_wp2_with fail
  go_loopw [11] (fun i wq => ∃ (k : Nat), k ≤ n ∧ i = .int .i64 k ∧ ∃ B v l K, Two8 g r c w wq B v l K) (fun i _ => n - (intOf i).toNat)
  case atStart => exact ⟨0, by omega, rfl, _, _, _, _, t2⟩
  case round =>
    clear t2
    obtain ⟨k, hk, rfl, B, v, l, K, h⟩ := hrel
    by_cases hgo : k < n ∧ k < 60
    · obtain ⟨hkn, hk60⟩ := hgo
      have hd : decide ((k : Int) < 60) = true := by simp; omega
      obtain ⟨ab, ao, rfl, hblt, hcell⟩ := HA.out (by omega)
      obtain ⟨x, x0, x1, x2, x3, x4⟩ := HR.out k hkn
      have hbel := h.hb
      have c0 := (hbel.cell (p := ⟨ab, ao + k * 5, none⟩) hblt).trans (hcell _ _ x0)
      have y1 := hcell _ _ x1
      rw [← Nat.add_assoc] at y1
      have c1 := (hbel.cell (p := ⟨ab, ao + k * 5 + 1, none⟩) hblt).trans y1
      have y2 := hcell _ _ x2
      rw [← Nat.add_assoc] at y2
      have c2 := (hbel.cell (p := ⟨ab, ao + k * 5 + 2, none⟩) hblt).trans y2
      have y3 := hcell _ _ x3
      rw [← Nat.add_assoc] at y3
      have c3 := (hbel.cell (p := ⟨ab, ao + k * 5 + 3, none⟩) hblt).trans y3
      have y4 := hcell _ _ x4
      rw [← Nat.add_assoc] at y4
      have c4 := (hbel.cell (p := ⟨ab, ao + k * 5 + 4, none⟩) hblt).trans y4
      have HX0 := Lib.hid x0; have HY1 := Lib.hid y1; have HY2 := Lib.hid y2; have HY3 := Lib.hid y3; have HY4 := Lib.hid y4; have HCE := Lib.hid hcell
      clear hcell x0 x1 x2 x3 x4 y1 y2 y3 y4 hbel
      have hJ := band (k : Int) 31 (by omega) (by omega)
      generalize hJ' : bits BinOp.and IntKind.i64 (k : Int) 31 = J at hJ
      obtain ⟨hJ0, hJ1⟩ := hJ
      go_wp2_with fail
      refine (ladd_any g c l K x _ h.pf hc2 h.hk).mono ?_
      rintro e w3 ⟨rfl, p3, g3⟩
      have b3 := bone h.hb g3 h.hb.size h.hg
      replace c0 := (b3.cell (p := ⟨ab, ao + k * 5, none⟩) hblt).trans (HCE.out _ _ HX0.out)
      replace c1 := (b3.cell (p := ⟨ab, ao + k * 5 + 1, none⟩) hblt).trans HY1.out
      replace c2 := (b3.cell (p := ⟨ab, ao + k * 5 + 2, none⟩) hblt).trans HY2.out
      replace c3 := (b3.cell (p := ⟨ab, ao + k * 5 + 3, none⟩) hblt).trans HY3.out
      replace c4 := (b3.cell (p := ⟨ab, ao + k * 5 + 4, none⟩) hblt).trans HY4.out
      have r3 := h.rf.grown g3 (fun e => h.gr (by injection e with e; exact e.symm)) (.inr h.gv)
      go_wp2_with fail
      refine (rladd_any B r c v l K x _ r3 (Nat.le_trans h.hq g3.size) hc2 h.hk).mono ?_
      rintro e w4 ⟨rfl, ⟨v4, r4⟩, fr4, b4⟩
      have h4 := h.add p3 g3 r4 fr4 b4
      clear p3 g3 r4 fr4 b4 b3 r3 h c0 c1 c2 c3 c4 HX0 HY1 HY2 HY3 HY4 HCE
      generalize addF c l x = l4 at *
      generalize addK c l K = K4 at *
      go_wp2_with fail
      · refine (ltake_any g c l4 K4 _ h4.pf).mono ?_
        rintro e w5 ⟨A5, cap5, rfl, own5, p5, g5⟩
        have r5 := h4.rf.grown g5 (fun e => h4.gr (by injection e with e; exact e.symm)) (.inr h4.gv)
        have b5 := bone h4.hb g5 h4.hb.size h4.hg
        go_wp2_with fail
        refine (rltake_any B r c v4 l4 K4 _ r5).mono ?_
        rintro e w6 ⟨rfl, r6, own6, g6⟩
        have o5 := own5.kept g6 (.inr (fun e => by have h1 := (own5.lt _ e).1; have h2 := h4.rf.blk.lt; omega))
        have hgr := h4.gr
        have p6 := p5.grown g6 (by intro e; injection e with e; exact hgr e)
        have b6 := bone b5 g6 b5.size h4.hr
        have hl4 := h4.hl
        have h6 : Two8 g r c w w6 B (.slice none 0 0) [] 0 := ⟨p6, r6, by simp, by omega, b6, h4.hg, h4.hr, h4.hB, Nat.le_trans h4.hq (Nat.le_trans g5.size g6.size)⟩
        have hw4 := h4.pf.lt
        have hr4 := h4.rf.blk.lt
        have hb4 := h4.hb.size
        clear r6 g6 own5 r5 g5 p5 b5 h4 p6 b6
        go_wp2_with fail
        refine (fsame_yes _ _ l4 _ (Sl.own o5) (Sl.own own6) (by omega)).mono ?_
        rintro e w' ⟨rfl, q, rfl⟩
        replace h6 := h6.drewN q
        replace o5 := own_drewN o5 q
        clear own6
        generalize w6.drewN q = w7 at *
        go_wp2_with fail
        refine (fspoil_any _ _ _ _ _ o5 (Tck.fls l4) (by omega)).mono ?_
        rintro e w8 ⟨rfl, g8⟩
        have h8 := h6.grown g8 (fun e => by have := (o5.lt _ e.symm).1; omega) (fun e => by have := (o5.lt _ e.symm).1; omega) (.inl rfl) (fun i e => by have := (o5.lt i e).1; omega)
        clear h6 g8 o5
        go_wp2_with fail
        go_roundw
        case rel => exact ⟨k + 1, by omega, by go_num, _, _, _, _, h8⟩
        case measure => simp [intOf]; omega
      · go_roundw
        case rel => exact ⟨k + 1, by omega, by go_num, _, _, _, _, h4⟩
        case measure => simp [intOf]; omega
    · have hx : (k : Int) ≥ n ∨ ((k : Int) < n ∧ decide ((k : Int) < 60) = false) := by
        by_cases h1 : k < n
        · exact .inr ⟨by omega, by simp; omega⟩
        · exact .inl (by omega)
      clear hgo
      rcases hx with hx | ⟨hx, hx2⟩
      all_goals
        go_wp2_with fail
        refine (ltake_any g c l K _ h.pf).mono ?_
        rintro e w3 ⟨A3, cap3, rfl, own3, p3, g3⟩
        have r3 := h.rf.grown g3 (fun e => h.gr (by injection e with e; exact e.symm)) (.inr h.gv)
        have b3 := bone h.hb g3 h.hb.size h.hg
        go_wp2_with fail
        refine (rltake_any B r c v l K _ r3).mono ?_
        rintro e w4 ⟨rfl, r4, own4, g4⟩
        have o3 := own3.kept g4 (.inr (fun e => by have h1 := (own3.lt _ e).1; have h2 := h.rf.blk.lt; omega))
        have b4 := bone b3 g4 b3.size h.hr
        have hl := h.hl
        clear r4 g4 own3 r3 g3 p3 b3 h
        go_wp2_with fail
        refine (fsame_yes _ _ l _ (Sl.own o3) (Sl.own own4) (by omega)).mono ?_
        rintro e w' ⟨rfl, q, rfl⟩
        go_wp2_with fail
        refine (lawake_any _).mono ?_
        rintro e wa ⟨rfl, ba⟩
        go_wp2_with fail
        go_ret
        exact ⟨rfl, Below.down (bdrewN b4 q) ba (bdrewN b4 q).size⟩

theorem law_Logs (c : Int) (v : Value) (n : Nat) (xs : List Value) (t : Int) (w : World) (hv : Sl w v n 5 xs) (hn : n ≤ maxLen) (hr : ∀ i, i < n → FltAt xs i) (w2 : (Lit.int .i64 t).wf = true) :
    Calls Try.prog 3 #[.int .i64 c, v, .int .i64 t] w fun e w' => e = .returned (.bool true) ∧ Below w.heap.size w w' := by
  by_cases hc : 1 ≤ c ∧ c ≤ 16
  · exact logs_yes c v n xs t w hv hn hr w2 hc.1 hc.2
  · exact logs_no c v t w hc

end Go.Proofs.Ytnlifmeikbgilaa
