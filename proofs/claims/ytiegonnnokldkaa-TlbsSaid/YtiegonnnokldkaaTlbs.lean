/-
  Layer 6's law Tlbs: it answers true for every input.
-/
import Derived.Test.YtiegonnnokldkaaTlbAwake
import Derived.Test.YtiegonnnokldkaaTlbR3
import Derived.Test.YtiegonnnokldkaaArgs
namespace Go.Proofs.Ytiegonnnokldkaa
open Go.RowKit Go.Deep
set_option linter.unusedVariables false

/-- The i-th act's five numbers. -/
def ActAt (xs : List Value) (i : Nat) : Prop := ∃ K D P F M : Int, xs[i * 5]? = some (.int .i64 K) ∧ xs[i * 5 + 1]? = some (.int .i64 D) ∧ xs[i * 5 + 2]? = some (.int .i64 P) ∧ xs[i * 5 + 3]? = some (.int .i64 F) ∧ xs[i * 5 + 4]? = some (.int .i64 M)

theorem acts_of {H : Type} {enc : TypeId × Value → H} {W : World} {n : Nat} {xs : List Value}
    (hr : ∀ i, i < n → ∃ (m : Nat) (y : DataW H × List MemPlace), DataW.trod enc Try.prog W 0 (fun _ => true) true m 35 ((xs.drop (i * 5)).take 5) = some y) : ∀ i, i < n → ActAt xs i := by
  intro i hi
  obtain ⟨m, y, hy⟩ := hr i hi
  obtain ⟨k, hk, _⟩ := fld_int (P := Try.prog) Try.underlying35 hy 0 0 _ rfl rfl (by kernel_rfl) Try.underlying3
  obtain ⟨d, hd, _⟩ := fld_int (P := Try.prog) Try.underlying35 hy 1 1 _ rfl rfl (by kernel_rfl) Try.underlying3
  obtain ⟨p, hp, _⟩ := fld_int (P := Try.prog) Try.underlying35 hy 2 2 _ rfl rfl (by kernel_rfl) Try.underlying3
  obtain ⟨m', y', hy'⟩ := fld_sub (P := Try.prog) Try.underlying35 hy 3 3 2 _ rfl rfl (by kernel_rfl)
  obtain ⟨f, hf, _⟩ := fld_int (P := Try.prog) Try.underlying33 hy' 0 0 _ rfl rfl (by kernel_rfl) Try.underlying3
  obtain ⟨q, hq, _⟩ := fld_int (P := Try.prog) Try.underlying33 hy' 1 1 _ rfl rfl (by kernel_rfl) Try.underlying3
  rw [elem_at _ _ _ _ (by omega)] at hk hd hp
  rw [List.getElem?_take, if_pos (by omega), List.getElem?_drop, elem_at _ _ _ _ (by omega)] at hf hq
  exact ⟨k, d, p, f, q, hk, hd, hp, hf, hq⟩

/-- The numbers of a slice's k-th act. -/
theorem rec5 {w : World} {A : Option Addr} {n c : Nat} {xs : List Value} (h : Sl w (.slice A n c) n 5 xs) (ha : ∀ i, i < n → ActAt xs i) (k : Nat) (hk : k < n) :
    ∃ b o, A = some ⟨b, o, none⟩ ∧ b < w.heap.size ∧ ∃ K D P F M : Int, w.cell? ⟨b, o + k * 5, none⟩ = some (.int .i64 K) ∧ w.cell? ⟨b, o + k * 5 + 1, none⟩ = some (.int .i64 D) ∧ w.cell? ⟨b, o + k * 5 + 2, none⟩ = some (.int .i64 P) ∧ w.cell? ⟨b, o + k * 5 + 3, none⟩ = some (.int .i64 F) ∧ w.cell? ⟨b, o + k * 5 + 4, none⟩ = some (.int .i64 M) := by
  obtain ⟨A', c', e, _, hl, hA⟩ := h
  simp only [Value.slice.injEq] at e
  obtain ⟨rfl, _, rfl⟩ := e
  obtain ⟨b, o, rfl, hb, hc⟩ := hA (by omega)
  obtain ⟨K, D, P, F, M, h0, h1, h2, h3, h4⟩ := ha k hk
  refine ⟨b, o, rfl, hb, K, D, P, F, M, hc _ _ h0, ?_, ?_, ?_, ?_⟩
  · have := hc _ _ h1; rwa [← Nat.add_assoc] at this
  · have := hc _ _ h2; rwa [← Nat.add_assoc] at this
  · have := hc _ _ h3; rwa [← Nat.add_assoc] at this
  · have := hc _ _ h4; rwa [← Nat.add_assoc] at this

/-- Both caches, the program's with lp, the document's with lr; c may stay. -/
structure St (w : World) (g r c B : Nat) (lp lr : List Ln) (v : Value) (w' : World) : Prop where
  pt : PT w' g c lp.length lp
  rt : RT w' B r c v lr
  b : Below w.heap.size w w'
  hB : w.heap.size ≤ B
  hB2 : B ≤ w'.heap.size
  hg : w.heap.size ≤ g
  hr : w.heap.size ≤ r

section
variable {w w1 w2 : World} {g r c B : Nat} {lp lr lp' lr' : List Ln} {v v' : Value}
theorem St.gr (h : St w g r c B lp lr v w1) : g ≠ r := by obtain ⟨z, _, hb⟩ := h.pt; exact hb.apart h.rt.blk (by decide)
theorem St.gv (h : St w g r c B lp lr v w1) : some g ≠ v.ownBlock := by obtain ⟨z, _, hb⟩ := h.pt; exact fun e => own_apart_blk h.rt.own hb (by decide) e.symm
theorem St.hv (h : St w g r c B lp lr v w1) : ∀ k, v.ownBlock = some k → w.heap.size ≤ k := fun k hk => Nat.le_trans h.hB (h.rt.own.lt k hk).1
theorem St.below (h : St w g r c B lp lr v w1) (b : Below w1.heap.size w1 w2) : St w g r c B lp lr v w2 := ⟨h.pt.below b h.pt.lt, h.rt.below b, Below.down h.b b h.b.size, h.hB, Nat.le_trans h.hB2 b.size, h.hg, h.hr⟩
theorem St.drewN (h : St w g r c B lp lr v w1) (n : Nat) : St w g r c B lp lr v (w1.drewN n) := ⟨h.pt.drewN n, h.rt.drewN n, bdrewN h.b n, h.hB, h.hB2, h.hg, h.hr⟩
theorem St.put (h : St w g r c B lp lr v w1) (hp : PT w2 g c lp'.length lp') (gr : w1.grownBy w2 (some g)) : St w g r c B lp' lr v w2 :=
  ⟨hp, h.rt.grown gr (fun e => h.gr (by injection e with e; exact e.symm)) (.inr fun e => h.gv e.symm), bone h.b gr h.b.size h.hg, h.hB, Nat.le_trans h.hB2 gr.size, h.hg, h.hr⟩
theorem St.ref (h : St w g r c B lp lr v w1) (hr : RT w2 B r c v' lr') (fr : Fr r v.ownBlock w1 w2) : St w g r c B lp lr' v' w2 := by
  refine ⟨?_, hr, fr.below h.b h.b.size h.hr h.hv, h.hB, Nat.le_trans h.hB2 fr.size, h.hg, h.hr⟩
  obtain ⟨z, hz, hb⟩ := h.pt
  exact ⟨z, hz, fr.blk hb h.gr h.gv⟩
/-- A block of another type is none of theirs. -/
theorem St.blk_put (h : St w g r c B lp lr v w1) {q : Nat} {t : TypeId} {cs : List Value} (hq : Blk w1 q t cs) (ht : t ≠ 54) (gr : w1.grownBy w2 (some g)) : Blk w2 q t cs := by
  obtain ⟨z, _, hb⟩ := h.pt
  exact hq.grown gr (by intro e; injection e with e; exact hq.apart hb ht e)
theorem St.blk_ref (h : St w g r c B lp lr v w1) {q : Nat} {t : TypeId} {cs : List Value} (hq : Blk w1 q t cs) (ht : t ≠ 57) (ht2 : 68 ≠ t) (fr : Fr r v.ownBlock w1 w2) : Blk w2 q t cs :=
  fr.blk hq (hq.apart h.rt.blk ht) (fun e => own_apart_blk h.rt.own hq ht2 e.symm)
end

/-- Both caches say the same. -/
def Two (w : World) (g r c : Nat) (w' : World) : Prop := ∃ (l : List Ln) (v : Value) (B : Nat), St w g r c B l l v w' ∧ Hid (l.length ≤ c) ∧ Hid (Uq l)

theorem dropL_eq (l : List Ln) (d p : Int) (h : Uq l) : dropL l d p = l.filter (fun x => !isK d p x) := by
  unfold dropL
  rcases idx_cases (isK d p) l with ⟨he, hall⟩ | ⟨k, hk, he, hy, _⟩
  · rw [he, if_neg (by omega)]; symm; rw [List.filter_eq_self]; intro x hx; simp [hall x hx]
  · rw [he, if_pos (by omega), Int.toNat_natCast, h.erase d p k hk hy]
theorem putA_uq (c : Nat) (l : List Ln) (x : Ln) (h : Uq l) (hl : l.length ≤ c) : Uq (putA c l x) ∧ (putA c l x).length ≤ c := by
  unfold putA
  split
  · exact ⟨h.put c x, (putL_len c l x hl).1⟩
  · exact ⟨h, hl⟩

/-- An act's cells in a block of the law's own. -/
theorem act_cells {w : World} {h : Nat} {t : TypeId} {K D P F M : Int} (ha : Blk w h t (ints [K, D, P, F, M])) : w.cell? ⟨h, 1, none⟩ = some (.int .i64 D) ∧ w.cell? ⟨h, 2, none⟩ = some (.int .i64 P) ∧ w.cell? ⟨h, 3, none⟩ = some (.int .i64 F) ∧ w.cell? ⟨h, 4, none⟩ = some (.int .i64 M) ∧ w.cell? ⟨h, 0, none⟩ = some (.int .i64 K) :=
  ⟨by rw [ha.cell]; rfl, by rw [ha.cell]; rfl, by rw [ha.cell]; rfl, by rw [ha.cell]; rfl, by rw [ha.cell]; rfl⟩

theorem act_keep {w : World} {h : Nat} {K D P F M : Int} (ha : Blk w h 35 (ints [K, D, P, F, M])) : w.cell? ⟨h, 1, none⟩ = some (.int .i64 D) ∧ w.cell? ⟨h, 2, none⟩ = some (.int .i64 P) ∧ w.cell? ⟨h, 3, none⟩ = some (.int .i64 F) ∧ w.cell? ⟨h, 4, none⟩ = some (.int .i64 M) ∧ Blk w h 35 (ints [K, D, P, F, M]) :=
  ⟨by rw [ha.cell]; rfl, by rw [ha.cell]; rfl, by rw [ha.cell]; rfl, by rw [ha.cell]; rfl, ha⟩
theorem rput_is (B r c : Nat) (v : Value) (l : List Ln) (d p f m k : Int) (w : World) (h : RT w B r c v l) (hB : B ≤ w.heap.size) (h1 : 1 ≤ c) (h2 : c ≤ 16) (h3 : l.length ≤ c) (hC : putC ⟨d, p, f, m⟩ = k) :
    Calls Try.prog 12 #[.pointer (some ⟨r, 0, none⟩), .int .i64 d, .int .i64 p, .agg #[.int .i64 f, .int .i64 m]] w fun e w' => e = .returned (.int .i64 k) ∧ (∃ v', RT w' B r c v' (putA c l ⟨d, p, f, m⟩)) ∧ Fr r v.ownBlock w w' := by
  have := rput_any B r c v l d p f m w h hB h1 h2 h3
  rw [hC] at this
  exact this
theorem rget_is (B r c : Nat) (v : Value) (l : List Ln) (d p F M : Int) (b : Bool) (w : World) (h : RT w B r c v l) (hF : getF l d p = F) (hM : getM l d p = M) (hb : getB l d p = b) :
    Calls Try.prog 18 #[.pointer (some ⟨r, 0, none⟩), .int .i64 d, .int .i64 p] w fun e w' => e = .returned (.tuple #[.agg #[.int .i64 F, .int .i64 M], .bool b]) ∧ Below w.heap.size w w' := by
  have := rget_any B r c v l d p w h
  rw [hF, hM, hb] at this
  exact this

theorem rdrop_is (B r c : Nat) (v : Value) (l l' : List Ln) (d p : Int) (b : Bool) (w : World) (h : RT w B r c v l) (hB : B ≤ w.heap.size) (hb : getB l d p = b) (hl : dropL l d p = l') :
    Calls Try.prog 14 #[.pointer (some ⟨r, 0, none⟩), .int .i64 d, .int .i64 p] w fun e w' => e = .returned (.bool b) ∧ (∃ v', RT w' B r c v' l') ∧ Fr r v.ownBlock w w' := by
  have := rdrop_any B r c v l d p w h hB
  rw [hb, hl] at this
  exact this
theorem rall_is (B r c : Nat) (v : Value) (l : List Ln) (d k : Int) (w : World) (h : RT w B r c v l) (hB : B ≤ w.heap.size) (hk : (l.length : Int) - ((l.filter fun x => !isD d x).length : Int) = k) :
    Calls Try.prog 16 #[.pointer (some ⟨r, 0, none⟩), .int .i64 d] w fun e w' => e = .returned (.int .i64 k) ∧ (∃ v', RT w' B r c v' (l.filter fun x => !isD d x)) ∧ Fr r v.ownBlock w w' := by
  have := rall_any B r c v l d w h hB
  rw [hk] at this
  exact this

set_option maxRecDepth 100000 in
set_option maxHeartbeats 2000000 in
theorem tlbs_no (c : Int) (v : Value) (w : World) (hc : ¬ (1 ≤ c ∧ c ≤ 16)) :
    Calls Try.prog 3 #[.int .i64 c, v] w fun e w' => e = .returned (.bool true) ∧ Below w.heap.size w w' := by
  have HC := Lib.hid hc; clear hc
  go_enter Try.func3, Try.ntmps3
  go_wp2_with fail
  refine (tnew_no _ _ HC.out).mono ?_
  rintro e w' ⟨rfl, rfl⟩
  go_wp2_with fail
  refine (rtnew_no _ _ HC.out).mono ?_
  rintro e w' ⟨rfl, rfl⟩
  go_wp2_with fail
  refine (num_any _ _).mono ?_
  rintro e w' ⟨rfl, rfl⟩
  go_wp2_with fail
  refine (tawake_any _).mono ?_
  rintro e wa ⟨rfl, ba⟩
  go_wp2_with fail
  go_ret
  exact ⟨rfl, ba⟩

set_option maxRecDepth 100000 in
set_option maxHeartbeats 8000000 in
theorem tlbs_yes (c : Int) (v : Value) (n : Nat) (xs : List Value) (w : World) (hv : Sl w v n 5 xs) (ha : ∀ i, i < n → ActAt xs i) (hn : n ≤ maxLen) (h1 : 1 ≤ c) (h2 : c ≤ 16) :
    Calls Try.prog 3 #[.int .i64 c, v] w fun e w' => e = .returned (.bool true) ∧ Below w.heap.size w w' := by
  obtain ⟨A, cap, rfl⟩ : ∃ A cap, v = .slice A n cap := by obtain ⟨A, c, e, _⟩ := hv; exact ⟨A, c, e⟩
  unfold maxLen at hn
  have HV := Lib.hid hv; have HA := Lib.hid ha; clear hv ha
  obtain ⟨c, rfl⟩ := Int.eq_ofNat_of_zero_le (show 0 ≤ c by omega)
  go_enter Try.func3, Try.ntmps3
  go_wp2_with fail
  refine (tnew_yes c _ (by omega) (by omega)).mono ?_
  rintro e w1 ⟨rfl, t1, b1⟩
  have hs1 := t1.lt
  go_wp2_with fail
  refine (rtnew_yes c _ (by omega) (by omega)).mono ?_
  rintro e w2 ⟨rfl, r2, b2⟩
  have t2 := t1.below b2 hs1
  have hrl := r2.blk.lt
  have hst : St w w.heap.size w1.heap.size c w2.heap.size [] [] (.slice none 0 0) w2 := ⟨t2, ⟨by simp, r2.blk, World.ownsRow_nil _ _ _ _⟩, Below.down b1 b2 (by omega), by have := b2.size; omega, Nat.le_refl _, Nat.le_refl _, by omega⟩
  have htwo : Two w w.heap.size w1.heap.size c w2 := ⟨[], _, _, hst, Lib.hid (by simp), Lib.hid List.Pairwise.nil⟩
  clear hst t1 b1 t2 r2 b2 hrl hs1
  generalize w.heap.size = g at htwo
  generalize w1.heap.size = r at htwo
  go_wp2_with (go_at_call 9; refine (num_any _ _).mono ?_; rintro e w' ⟨rfl, rfl⟩)
  go_loopw [9] (fun i wq => ∃ (k : Nat), k ≤ n ∧ i = .int .i64 k ∧ Two w g r c wq) (fun i _ => n - (intOf i).toNat)
  case atStart => exact ⟨0, by omega, rfl, htwo⟩
  case round =>
    clear htwo
    obtain ⟨k, hk, rfl, l, v, B, hst, HL, HU⟩ := hrel
    by_cases hgo : k < n ∧ k < 80
    · obtain ⟨hkn, hk80⟩ := hgo
      have hd : decide ((k : Int) < 80) = true := by simp; omega
      obtain ⟨b, o, rfl, hblt, K, D, P, F, M, c0, c1, c2, c3, c4⟩ := rec5 HV.out HA.out k hkn
      replace c0 := (hst.b.cell (p := ⟨b, o + k * 5, none⟩) hblt).trans c0
      replace c1 := (hst.b.cell (p := ⟨b, o + k * 5 + 1, none⟩) hblt).trans c1
      replace c2 := (hst.b.cell (p := ⟨b, o + k * 5 + 2, none⟩) hblt).trans c2
      replace c3 := (hst.b.cell (p := ⟨b, o + k * 5 + 3, none⟩) hblt).trans c3
      replace c4 := (hst.b.cell (p := ⟨b, o + k * 5 + 4, none⟩) hblt).trans c4
      have hbl : b < wr.heap.size := Nat.lt_of_lt_of_le hblt hst.b.size
      have hB5 : Blk (wr.alloc (.cells (ints [K, D, P, F, M]).toArray 35)) wr.heap.size 35 (ints [K, D, P, F, M]) := Blk.new _ _ _
      have hst2 := hst.below ((Below.refl _ _).alloc (Nat.le_refl wr.heap.size) (.cells (ints [K, D, P, F, M]).toArray 35))
      clear hst
      by_cases hk4 : K < 4
      · skip
        have hk4' : decide (K < 4) = true := by simpa using hk4
        have hk5 : (K == 4) = false := by simp; omega
        go_wp2_with fail

        change Calls _ _ _ (wr.alloc (.cells (ints [K, D, P, F, M]).toArray 35)) _
        generalize wr.alloc (.cells (ints [K, D, P, F, M]).toArray 35) = wa at *
        generalize wr.heap.size = h at *
        clear c0 c1 c2 c3 c4 hbl

        refine (pput_is g c l (putA c l ⟨D, P, F, M⟩) D P F M (putC ⟨D, P, F, M⟩) _ hst2.pt (by omega) (by omega) HL.out rfl rfl).mono ?_
        rintro e w3 ⟨rfl, t3, g3⟩
        have hst3 := hst2.put t3 g3
        replace hB5 := hst2.blk_put hB5 (by decide) g3
        obtain ⟨hu, hl⟩ := putA_uq c l ⟨D, P, F, M⟩ HU.out HL.out
        have HLL := Lib.hid hl; have HUU := Lib.hid hu
        generalize hC : putC ⟨D, P, F, M⟩ = N at *
        have HC := Lib.hid hC
        have hN : (N != N) = false := by simp
        clear hst2 t3 g3 hu hl hC
        obtain ⟨k1, k2, k3, k4, k0⟩ := act_cells hB5
        go_wp2_with fail
        have hst3d : St w g r c B (putA c l ⟨D, P, F, M⟩) l v w3.drew := hst3.drewN 1
        clear k0 hst3
        go_region_held3 (fun w' => w'.cell? ⟨h, 1, none⟩ = some (.int .i64 D) ∧ w'.cell? ⟨h, 2, none⟩ = some (.int .i64 P) ∧ w'.cell? ⟨h, 3, none⟩ = some (.int .i64 F) ∧ w'.cell? ⟨h, 4, none⟩ = some (.int .i64 M) ∧ Blk w' h 35 (ints [K, D, P, F, M]))
          ((go_split_ands; have hq := (by assumption : Blk _ h 35 (ints [K, D, P, F, M])); first | exact act_keep hq | exact act_keep (hq.drewN 1) | exact act_keep (hst3d.blk_ref hq (by decide) (by decide) fr4)))
          (first
            | (go_at_call 9; (with_reducible refine (num_any _ _).mono ?_); rintro e w' ⟨rfl, rfl⟩)
            | (go_at_call 12; (with_reducible refine (rput_is B r c v l D P F M N _ hst3d.rt hst3d.hB2 (by omega) (by omega) HL.out HC.out).mono ?_); rintro e w4 ⟨rfl, ⟨v4, r4⟩, fr4⟩))
        have hst := hst3d.ref r4 fr4
        replace hB5 := hst3d.blk_ref (show Blk w3.drew h _ _ from hB5.drewN 1) (by decide) (by decide) fr4
        clear hst3d r4 fr4 k1 k2 k3 k4
        obtain ⟨v, hv4⟩ : ∃ v, v = v4 := ⟨_, rfl⟩
        subst hv4
        generalize putA c l ⟨D, P, F, M⟩ = L at *

        obtain ⟨k1, k2, k3, k4, k0⟩ := act_cells hB5
        generalize hF' : getF L D P = F'
        generalize hM' : getM L D P = M'
        generalize hb' : getB L D P = bb
        have HF' := Lib.hid hF'; have HM' := Lib.hid hM'; have HB' := Lib.hid hb'; clear hF' hM' hb'
        have hbb : (bb != bb) = false := by simp
        go_wp2_with fail
        refine (pget_is g c L D P F' M' bb _ hst.pt HF'.out HM'.out HB'.out).mono ?_
        rintro e wA ⟨rfl, bA⟩
        replace hst := hst.below bA
        replace hB5 := hB5.below bA hB5.lt
        clear bA k0 k1 k2 k3 k4
        obtain ⟨k1, k2, k3, k4, k0⟩ := act_cells hB5
        have hhl := hB5.lt
        go_wp2_with fail
        change Calls _ _ _ (wA.alloc (.cells (ints [F', M']).toArray 33)) _
        have hX : Blk (wA.alloc (.cells (ints [F', M']).toArray 33)) wA.heap.size 33 (ints [F', M']) := Blk.new _ _ _
        replace hst := hst.below ((Below.refl _ _).alloc (Nat.le_refl wA.heap.size) (.cells (ints [F', M']).toArray 33))
        generalize wA.alloc (.cells (ints [F', M']).toArray 33) = wb at *
        generalize wA.heap.size = hx at *
        clear k0 k1 k2 k3 k4 hhl hB5
        refine (rget_is B r c v L D P F' M' bb _ hst.rt HF'.out HM'.out HB'.out).mono ?_
        rintro e wC ⟨rfl, bC⟩
        replace hst := hst.below bC
        replace hX := hX.below bC hX.lt
        clear bC
        have x0 := hX.cell 0
        have x1 := hX.cell 1
        simp only [ints, List.map_cons, List.getElem?_cons_zero, List.getElem?_cons_succ] at x0 x1
        have hxl := hX.lt
        go_wp2_with fail
        change Calls _ _ _ (wC.alloc (.cells (ints [F', M']).toArray 33)) _
        replace hst := hst.below ((Below.refl _ _).alloc (Nat.le_refl wC.heap.size) (.cells (ints [F', M']).toArray 33))
        generalize wC.alloc (.cells (ints [F', M']).toArray 33) = wd at *
        clear x0 x1 hxl hX
        refine (plen_any g c L.length L _ hst.pt hst.pt.len).mono ?_
        rintro e we ⟨rfl, q, rfl⟩
        replace hst := hst.drewN q
        generalize wd.drewN q = we at *
        go_wp2_with fail
        refine (rlen_any B r c v L _ hst.rt).mono ?_
        rintro e wf ⟨rfl, rfl⟩
        have hln : (((L.length : Nat) : Int) != ((L.length : Nat) : Int)) = false := by simp
        go_wp2_with fail
        go_roundw
        case rel => exact ⟨k + 1, by omega, by go_num, L, v, B, hst, HLL, HUU⟩
        case measure => simp [intOf]; omega
      · by_cases hk5 : K = 4
        · skip
          obtain rfl : K = 4 := by omega
          clear hk4

          go_wp2_with fail

          change Code.wp _ _ _ _ (wr.alloc (.cells (ints [4, D, P, F, M]).toArray 35))
          generalize wr.alloc (.cells (ints [4, D, P, F, M]).toArray 35) = wa at *
          generalize wr.heap.size = h at *
          clear c0 c1 c2 c3 c4 hbl


          have HLL := Lib.hid (Nat.le_trans (List.length_filter_le (fun x => !isK D P x) l) HL.out)
          have HUU := Lib.hid (HU.out.filter (fun x => !isK D P x))
          have HDL := Lib.hid (dropL_eq l D P HU.out)
          generalize hG : getB l D P = N
          have HG := Lib.hid hG
          have hN : (N != N) = false := by simp
          clear hG

          obtain ⟨k1, k2, k3, k4, k0⟩ := act_cells hB5
          have hst3d : St w g r c B l l v wa.drew := hst2.drewN 1
          have hB5d : Blk wa.drew h 35 (ints [4, D, P, F, M]) := hB5.drewN 1
          clear k0 hst2
          go_region_held3 (fun w' => w'.cell? ⟨h, 1, none⟩ = some (.int .i64 D) ∧ w'.cell? ⟨h, 2, none⟩ = some (.int .i64 P) ∧ w'.cell? ⟨h, 3, none⟩ = some (.int .i64 F) ∧ w'.cell? ⟨h, 4, none⟩ = some (.int .i64 M) ∧ Blk w' h 35 (ints [4, D, P, F, M]))
            ((go_split_ands; have hq := (by assumption : Blk _ h 35 (ints [4, D, P, F, M])); first | exact act_keep hq | exact act_keep (hq.drewN 1) | exact act_keep (hst3d.blk_put hq (by decide) g4) | exact act_keep ((hst3d.put t4 g4).blk_ref hq (by decide) (by decide) fr4)))
            (first
              | (go_at_call 13; (with_reducible refine (pdrop_is g c l (l.filter fun x => !isK D P x) D P N _ hst3d.pt HG.out rfl).mono ?_); rintro e w3 ⟨rfl, t4, g4⟩)
              | (go_at_call 14; (with_reducible refine (rdrop_is B r c v l (l.filter fun x => !isK D P x) D P N _ (hst3d.put t4 g4).rt (hst3d.put t4 g4).hB2 HG.out HDL.out).mono ?_); rintro e w4 ⟨rfl, ⟨v4, r4⟩, fr4⟩))
          have hst := (hst3d.put t4 g4).ref r4 fr4
          replace hB5 := (hst3d.put t4 g4).blk_ref (hst3d.blk_put hB5d (by decide) g4) (by decide) (by decide) fr4
          clear hst3d t4 g4 r4 fr4 k1 k2 k3 k4 hB5d
          obtain ⟨v, hv4⟩ : ∃ v, v = v4 := ⟨_, rfl⟩
          subst hv4
          generalize l.filter (fun x => !isK D P x) = L at *

          obtain ⟨k1, k2, k3, k4, k0⟩ := act_cells hB5
          generalize hF' : getF L D P = F'
          generalize hM' : getM L D P = M'
          generalize hb' : getB L D P = bb
          have HF' := Lib.hid hF'; have HM' := Lib.hid hM'; have HB' := Lib.hid hb'; clear hF' hM' hb'
          have hbb : (bb != bb) = false := by simp
          go_wp2_with fail
          refine (pget_is g c L D P F' M' bb _ hst.pt HF'.out HM'.out HB'.out).mono ?_
          rintro e wA ⟨rfl, bA⟩
          replace hst := hst.below bA
          replace hB5 := hB5.below bA hB5.lt
          clear bA k0 k1 k2 k3 k4
          obtain ⟨k1, k2, k3, k4, k0⟩ := act_cells hB5
          have hhl := hB5.lt
          go_wp2_with fail
          change Calls _ _ _ (wA.alloc (.cells (ints [F', M']).toArray 33)) _
          have hX : Blk (wA.alloc (.cells (ints [F', M']).toArray 33)) wA.heap.size 33 (ints [F', M']) := Blk.new _ _ _
          replace hst := hst.below ((Below.refl _ _).alloc (Nat.le_refl wA.heap.size) (.cells (ints [F', M']).toArray 33))
          generalize wA.alloc (.cells (ints [F', M']).toArray 33) = wb at *
          generalize wA.heap.size = hx at *
          clear k0 k1 k2 k3 k4 hhl hB5
          refine (rget_is B r c v L D P F' M' bb _ hst.rt HF'.out HM'.out HB'.out).mono ?_
          rintro e wC ⟨rfl, bC⟩
          replace hst := hst.below bC
          replace hX := hX.below bC hX.lt
          clear bC
          have x0 := hX.cell 0
          have x1 := hX.cell 1
          simp only [ints, List.map_cons, List.getElem?_cons_zero, List.getElem?_cons_succ] at x0 x1
          have hxl := hX.lt
          go_wp2_with fail
          change Calls _ _ _ (wC.alloc (.cells (ints [F', M']).toArray 33)) _
          replace hst := hst.below ((Below.refl _ _).alloc (Nat.le_refl wC.heap.size) (.cells (ints [F', M']).toArray 33))
          generalize wC.alloc (.cells (ints [F', M']).toArray 33) = wd at *
          clear x0 x1 hxl hX
          refine (plen_any g c L.length L _ hst.pt hst.pt.len).mono ?_
          rintro e we ⟨rfl, q, rfl⟩
          replace hst := hst.drewN q
          generalize wd.drewN q = we at *
          go_wp2_with fail
          refine (rlen_any B r c v L _ hst.rt).mono ?_
          rintro e wf ⟨rfl, rfl⟩
          have hln : (((L.length : Nat) : Int) != ((L.length : Nat) : Int)) = false := by simp
          go_wp2_with fail
          go_roundw
          case rel => exact ⟨k + 1, by omega, by go_num, L, v, B, hst, HLL, HUU⟩
          case measure => simp [intOf]; omega
        · by_cases hk6 : K = 5
          · skip
            obtain rfl : K = 5 := by omega
            clear hk4 hk5

            go_wp2_with fail

            change Code.wp _ _ _ _ (wr.alloc (.cells (ints [5, D, P, F, M]).toArray 35))
            generalize wr.alloc (.cells (ints [5, D, P, F, M]).toArray 35) = wa at *
            generalize wr.heap.size = h at *
            clear c0 c1 c2 c3 c4 hbl


            have HLL := Lib.hid (Nat.le_trans (List.length_filter_le (fun x => !isD D x) l) HL.out)
            have HUU := Lib.hid (HU.out.filter (fun x => !isD D x))
            generalize hG : (l.length : Int) - ((l.filter fun x => !isD D x).length : Int) = N
            have HG := Lib.hid hG
            have hN : (N != N) = false := by simp
            clear hG

            obtain ⟨k1, k2, k3, k4, k0⟩ := act_cells hB5
            have hst3d : St w g r c B l l v wa.drew := hst2.drewN 1
            have hB5d : Blk wa.drew h 35 (ints [5, D, P, F, M]) := hB5.drewN 1
            clear k0 hst2
            go_region_held3 (fun w' => w'.cell? ⟨h, 1, none⟩ = some (.int .i64 D) ∧ w'.cell? ⟨h, 2, none⟩ = some (.int .i64 P) ∧ w'.cell? ⟨h, 3, none⟩ = some (.int .i64 F) ∧ w'.cell? ⟨h, 4, none⟩ = some (.int .i64 M) ∧ Blk w' h 35 (ints [5, D, P, F, M]))
              ((go_split_ands; have hq := (by assumption : Blk _ h 35 (ints [5, D, P, F, M])); first | exact act_keep hq | exact act_keep (hq.drewN 1) | exact act_keep (hst3d.blk_put hq (by decide) g4) | exact act_keep ((hst3d.put t4 g4).blk_ref hq (by decide) (by decide) fr4)))
              (first
                | (go_at_call 15; (with_reducible refine (pall_is g c l (l.filter fun x => !isD D x) D N _ hst3d.pt rfl HG.out).mono ?_); rintro e w3 ⟨rfl, t4, g4⟩)
                | (go_at_call 16; (with_reducible refine (rall_is B r c v l D N _ (hst3d.put t4 g4).rt (hst3d.put t4 g4).hB2 HG.out).mono ?_); rintro e w4 ⟨rfl, ⟨v4, r4⟩, fr4⟩))
            have hst := (hst3d.put t4 g4).ref r4 fr4
            replace hB5 := (hst3d.put t4 g4).blk_ref (hst3d.blk_put hB5d (by decide) g4) (by decide) (by decide) fr4
            clear hst3d t4 g4 r4 fr4 k1 k2 k3 k4 hB5d
            obtain ⟨v, hv4⟩ : ∃ v, v = v4 := ⟨_, rfl⟩
            subst hv4
            generalize l.filter (fun x => !isD D x) = L at *

            obtain ⟨k1, k2, k3, k4, k0⟩ := act_cells hB5
            generalize hF' : getF L D P = F'
            generalize hM' : getM L D P = M'
            generalize hb' : getB L D P = bb
            have HF' := Lib.hid hF'; have HM' := Lib.hid hM'; have HB' := Lib.hid hb'; clear hF' hM' hb'
            have hbb : (bb != bb) = false := by simp
            go_wp2_with fail
            refine (pget_is g c L D P F' M' bb _ hst.pt HF'.out HM'.out HB'.out).mono ?_
            rintro e wA ⟨rfl, bA⟩
            replace hst := hst.below bA
            replace hB5 := hB5.below bA hB5.lt
            clear bA k0 k1 k2 k3 k4
            obtain ⟨k1, k2, k3, k4, k0⟩ := act_cells hB5
            have hhl := hB5.lt
            go_wp2_with fail
            change Calls _ _ _ (wA.alloc (.cells (ints [F', M']).toArray 33)) _
            have hX : Blk (wA.alloc (.cells (ints [F', M']).toArray 33)) wA.heap.size 33 (ints [F', M']) := Blk.new _ _ _
            replace hst := hst.below ((Below.refl _ _).alloc (Nat.le_refl wA.heap.size) (.cells (ints [F', M']).toArray 33))
            generalize wA.alloc (.cells (ints [F', M']).toArray 33) = wb at *
            generalize wA.heap.size = hx at *
            clear k0 k1 k2 k3 k4 hhl hB5
            refine (rget_is B r c v L D P F' M' bb _ hst.rt HF'.out HM'.out HB'.out).mono ?_
            rintro e wC ⟨rfl, bC⟩
            replace hst := hst.below bC
            replace hX := hX.below bC hX.lt
            clear bC
            have x0 := hX.cell 0
            have x1 := hX.cell 1
            simp only [ints, List.map_cons, List.getElem?_cons_zero, List.getElem?_cons_succ] at x0 x1
            have hxl := hX.lt
            go_wp2_with fail
            change Calls _ _ _ (wC.alloc (.cells (ints [F', M']).toArray 33)) _
            replace hst := hst.below ((Below.refl _ _).alloc (Nat.le_refl wC.heap.size) (.cells (ints [F', M']).toArray 33))
            generalize wC.alloc (.cells (ints [F', M']).toArray 33) = wd at *
            clear x0 x1 hxl hX
            refine (plen_any g c L.length L _ hst.pt hst.pt.len).mono ?_
            rintro e we ⟨rfl, q, rfl⟩
            replace hst := hst.drewN q
            generalize wd.drewN q = we at *
            go_wp2_with fail
            refine (rlen_any B r c v L _ hst.rt).mono ?_
            rintro e wf ⟨rfl, rfl⟩
            have hln : (((L.length : Nat) : Int) != ((L.length : Nat) : Int)) = false := by simp
            go_wp2_with fail
            go_roundw
            case rel => exact ⟨k + 1, by omega, by go_num, L, v, B, hst, HLL, HUU⟩
            case measure => simp [intOf]; omega
          · skip
            have hk4' : decide (K < 4) = false := by simp; omega
            have hk5' : (K == 4) = false := by simpa using hk5
            have hk6' : (K == 5) = false := by simpa using hk6
            have HLL := HL
            have HUU := HU
            clear hk4 hk5 hk6
            go_wp2_with fail

            change Calls _ _ _ (wr.alloc (.cells (ints [K, D, P, F, M]).toArray 35)) _
            generalize wr.alloc (.cells (ints [K, D, P, F, M]).toArray 35) = wa at *
            generalize wr.heap.size = h at *
            clear c0 c1 c2 c3 c4 hbl

            have hst := hst2
            clear hst2

            obtain ⟨k1, k2, k3, k4, k0⟩ := act_cells hB5
            generalize hF' : getF l D P = F'
            generalize hM' : getM l D P = M'
            generalize hb' : getB l D P = bb
            have HF' := Lib.hid hF'; have HM' := Lib.hid hM'; have HB' := Lib.hid hb'; clear hF' hM' hb'
            have hbb : (bb != bb) = false := by simp
            refine (pget_is g c l D P F' M' bb _ hst.pt HF'.out HM'.out HB'.out).mono ?_
            rintro e wA ⟨rfl, bA⟩
            replace hst := hst.below bA
            replace hB5 := hB5.below bA hB5.lt
            clear bA k0 k1 k2 k3 k4
            obtain ⟨k1, k2, k3, k4, k0⟩ := act_cells hB5
            have hhl := hB5.lt
            go_wp2_with fail
            change Calls _ _ _ (wA.alloc (.cells (ints [F', M']).toArray 33)) _
            have hX : Blk (wA.alloc (.cells (ints [F', M']).toArray 33)) wA.heap.size 33 (ints [F', M']) := Blk.new _ _ _
            replace hst := hst.below ((Below.refl _ _).alloc (Nat.le_refl wA.heap.size) (.cells (ints [F', M']).toArray 33))
            generalize wA.alloc (.cells (ints [F', M']).toArray 33) = wb at *
            generalize wA.heap.size = hx at *
            clear k0 k1 k2 k3 k4 hhl hB5
            refine (rget_is B r c v l D P F' M' bb _ hst.rt HF'.out HM'.out HB'.out).mono ?_
            rintro e wC ⟨rfl, bC⟩
            replace hst := hst.below bC
            replace hX := hX.below bC hX.lt
            clear bC
            have x0 := hX.cell 0
            have x1 := hX.cell 1
            simp only [ints, List.map_cons, List.getElem?_cons_zero, List.getElem?_cons_succ] at x0 x1
            have hxl := hX.lt
            go_wp2_with fail
            change Calls _ _ _ (wC.alloc (.cells (ints [F', M']).toArray 33)) _
            replace hst := hst.below ((Below.refl _ _).alloc (Nat.le_refl wC.heap.size) (.cells (ints [F', M']).toArray 33))
            generalize wC.alloc (.cells (ints [F', M']).toArray 33) = wd at *
            clear x0 x1 hxl hX
            refine (plen_any g c l.length l _ hst.pt hst.pt.len).mono ?_
            rintro e we ⟨rfl, q, rfl⟩
            replace hst := hst.drewN q
            generalize wd.drewN q = we at *
            go_wp2_with fail
            refine (rlen_any B r c v l _ hst.rt).mono ?_
            rintro e wf ⟨rfl, rfl⟩
            have hln : (((l.length : Nat) : Int) != ((l.length : Nat) : Int)) = false := by simp
            go_wp2_with fail
            go_roundw
            case rel => exact ⟨k + 1, by omega, by go_num, l, v, B, hst, HLL, HUU⟩
            case measure => simp [intOf]; omega
    · have hx : (k : Int) ≥ n ∨ ((k : Int) < n ∧ decide ((k : Int) < 80) = false) := by
        by_cases h1 : k < n
        · exact .inr ⟨by omega, by simp; omega⟩
        · exact .inl (by omega)
      have hbel := hst.b
      clear hgo hst
      have hsz := hbel.size
      rcases hx with hx | ⟨hx, hx2⟩
      all_goals
        go_wp2_with fail
        refine (tawake_any _).mono ?_
        rintro e wa ⟨rfl, ba⟩
        go_wp2_with fail
        go_ret
        exact ⟨rfl, Below.down hbel ba hsz⟩

theorem law_Tlbs (c : Int) (v : Value) (n : Nat) (xs : List Value) (w : World) (hv : Sl w v n 5 xs) (ha : ∀ i, i < n → ActAt xs i) (hn : n ≤ maxLen) :
    Calls Try.prog 3 #[.int .i64 c, v] w fun e w' => e = .returned (.bool true) ∧ Below w.heap.size w w' := by
  by_cases hc : 1 ≤ c ∧ c ≤ 16
  · exact tlbs_yes c v n xs w hv ha hn hc.1 hc.2
  · exact tlbs_no c v w hc

end Go.Proofs.Ytiegonnnokldkaa
