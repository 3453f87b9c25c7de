/-
  Layer 19, the document: Disk; there, Left, Open, Spend.
-/
import Derived.Test.YtjccdimmfhkipaaDk0
import Derived.Test.YtjccdimmfhkipaaEx2
import Derived.Laws.OwnMore
namespace Go.Proofs.Ytjccdimmfhkipaa
open Go.RowKit
set_option linter.unusedVariables false
set_option linter.unusedSimpArgs false
set_option maxRecDepth 100000

/-- The document's disk: at block r; its shares at block a, its bytes at block hb, what each has left at block b. -/
structure RD (w : World) (r a ca hb b cb : Nat) (ps : List (Int × Int)) (N : Nat) (Q : Int) (L : Nat → Int) (l : List UInt8) : Prop where
  ext : extB ps N = true
  ll : l.length = 1024
  lb : ∀ i, 0 ≤ L i ∧ L i ≤ 64
  qb : 0 ≤ Q ∧ Q ≤ 64
  blk : Blk w r 69 [.slice (some ⟨a, 0, none⟩) ps.length ca, .int .i64 Q, .slice (some ⟨hb, 0, none⟩) (N * 16) (N * 16), .slice (some ⟨b, 0, none⟩) ps.length cb]
  byt : Blk w hb 5 (bts (l.take (N * 16)))
  par : ∃ cs, Blk w a 39 cs ∧ PtS w (.slice (some ⟨a, 0, none⟩) ps.length ca) ps
  lef : w.ownsRow 0 3 1 (.slice (some ⟨b, 0, none⟩) ps.length cb) ps.length (itc L ps.length)
section
variable {w w' : World} {r a ca hb b cb : Nat} {ps : List (Int × Int)} {N : Nat} {Q : Int} {L L' : Nat → Int} {l l' : List UInt8}
theorem RD.p4 (d : RD w r a ca hb b cb ps N Q L l) : 1 ≤ ps.length ∧ ps.length ≤ 4 ∧ N ≤ 64 := by obtain ⟨h1, h2, h3, h4, _⟩ := extB_parts d.ext; omega
theorem RD.lb_lt (d : RD w r a ca hb b cb ps N Q L l) : b < w.heap.size := (d.lef.lt b rfl).2
theorem RD.lt (d : RD w r a ca hb b cb ps N Q L l) : r < w.heap.size ∧ a < w.heap.size ∧ hb < w.heap.size ∧ b < w.heap.size := by obtain ⟨cs, h, _⟩ := d.par; exact ⟨d.blk.lt, h.lt, d.byt.lt, d.lb_lt⟩
theorem RD.apart (d : RD w r a ca hb b cb ps N Q L l) : r ≠ a ∧ r ≠ hb ∧ r ≠ b ∧ a ≠ hb ∧ a ≠ b ∧ hb ≠ b := by
  obtain ⟨cs, h, _⟩ := d.par
  exact ⟨d.blk.apart h (by decide), d.blk.apart d.byt (by decide), fun e => own_apart_blk d.lef d.blk (by decide) (by rw [e]; rfl), h.apart d.byt (by decide), fun e => own_apart_blk d.lef h (by decide) (by rw [e]; rfl), fun e => own_apart_blk d.lef d.byt (by decide) (by rw [e]; rfl)⟩
theorem RD.pts (d : RD w r a ca hb b cb ps N Q L l) : PtS w (.slice (some ⟨a, 0, none⟩) ps.length ca) ps := by obtain ⟨cs, h, e⟩ := d.par; exact e
theorem RD.heads (d : RD w r a ca hb b cb ps N Q L l) : w.cell? ⟨r, 0, none⟩ = some (.slice (some ⟨a, 0, none⟩) ps.length ca) ∧ w.cell? ⟨r, 1, none⟩ = some (.int .i64 Q) ∧ w.cell? ⟨r, 2, none⟩ = some (.slice (some ⟨hb, 0, none⟩) (N * 16) (N * 16)) ∧ w.cell? ⟨r, 3, none⟩ = some (.slice (some ⟨b, 0, none⟩) ps.length cb) := by
  refine ⟨?_, ?_, ?_, ?_⟩ <;> (rw [d.blk.cell]; rfl)
theorem RD.at_ (d : RD w r a ca hb b cb ps N Q L l) (k : Nat) (hk : k < ps.length) : w.cell? ⟨b, k, none⟩ = some (.int .i64 (L k)) := by
  rw [d.lef.cellAt _ (by omega), itc_get _ _ _ hk]
theorem RD.frozen (d : RD w r a ca hb b cb ps N Q L l) (i : Nat) : w.frozen? ⟨b, i, none⟩ = false := d.lef.frozenAt i
theorem RD.byte (d : RD w r a ca hb b cb ps N Q L l) (k : Nat) (hk : k < N * 16) : w.cell? ⟨hb, k, none⟩ = some (.int .u8 ((l.getD k 0).toNat : Int)) := by
  have hN := d.p4
  rw [d.byt.cell, bts_get _ k (by rw [List.length_take, d.ll]; omega)]
  simp [List.getD, List.getElem?_take, hk]
theorem RD.keep (d : RD w r a ca hb b cb ps N Q L l) (h1 : w'.heap[r]? = w.heap[r]?) (h2 : w'.heap[a]? = w.heap[a]?) (h3 : w'.heap[hb]? = w.heap[hb]?) (h4 : w'.heap[b]? = w.heap[b]?) (hs : w.heap.size ≤ w'.heap.size) : RD w' r a ca hb b cb ps N Q L l := by
  obtain ⟨cs, h, hp⟩ := d.par
  exact ⟨d.ext, d.ll, d.lb, d.qb, h1.trans d.blk, h3.trans d.byt, ⟨cs, h2.trans h, hp.same h h2 hs⟩, own_stay d.lef (fun b' hb' => by
    have e : b = b' := by simpa [Value.ownBlock] using hb'
    subst e; exact h4)⟩
theorem RD.below (d : RD w r a ca hb b cb ps N Q L l) (h : Below w.heap.size w w') : RD w' r a ca hb b cb ps N Q L l :=
  d.keep (h.block _ d.lt.1) (h.block _ d.lt.2.1) (h.block _ d.lt.2.2.1) (h.block _ d.lt.2.2.2) h.size
theorem RD.drewN (d : RD w r a ca hb b cb ps N Q L l) (n : Nat) : RD (w.drewN n) r a ca hb b cb ps N Q L l := d.below (bdrewN (Below.refl _ _) n)
theorem RD.set (d : RD w r a ca hb b cb ps N Q L l) (k : Nat) (x : Int) (hx : 0 ≤ x ∧ x ≤ 64) : RD (w.setCell ⟨b, k, none⟩ (.int .i64 x)) r a ca hb b cb ps N Q (iF L k x) l := by
  obtain ⟨cs, h, hp⟩ := d.par
  obtain ⟨_, _, n1, _, n2, n3⟩ := d.apart
  have hl := (d.lef.stored k (.int .i64 x)).1
  rw [itc_set] at hl
  exact ⟨d.ext, d.ll, fun i => by unfold iF; split; exact hx; exact d.lb i, d.qb, d.blk.far (p := ⟨b, k, none⟩) n1 _, d.byt.far (p := ⟨b, k, none⟩) n3 _, ⟨cs, h.far (p := ⟨b, k, none⟩) n2 _, hp.same h (Below.heap_setCell w ⟨b, k, none⟩ _ a n2) (by simp [World.setCell])⟩, hl⟩
theorem bts_set (l : List UInt8) (k : Nat) (y : UInt8) : (bts l).set k (.int .u8 (y.toNat : Int)) = bts (l.set k y) := by simp [bts, List.map_set]
theorem RD.setByte (d : RD w r a ca hb b cb ps N Q L l) (k : Nat) (y : UInt8) : RD (w.setCell ⟨hb, k, none⟩ (.int .u8 (y.toNat : Int))) r a ca hb b cb ps N Q L (l.set k y) := by
  obtain ⟨cs, h, hp⟩ := d.par
  obtain ⟨_, n1, _, n2, _, n3⟩ := d.apart
  have hb2 := d.byt.set k (.int .u8 (y.toNat : Int))
  rw [bts_set, ← List.take_set] at hb2
  exact ⟨d.ext, by rw [List.length_set]; exact d.ll, d.lb, d.qb, d.blk.far (p := ⟨hb, k, none⟩) n1 _, hb2, ⟨cs, h.far (p := ⟨hb, k, none⟩) n2 _, hp.same h (Below.heap_setCell w ⟨hb, k, none⟩ _ a n2) (by simp [World.setCell])⟩, own_stay d.lef (fun b' hb' => by
    have e : b = b' := by simpa [Value.ownBlock] using hb'
    subst e; exact Below.heap_setCell w ⟨hb, k, none⟩ _ b (fun e => n3 e.symm))⟩
end
/-- As a thing. -/
def obRD1 (r a ca hb b cb : Nat) (ps : List (Int × Int)) (N : Nat) (Q : Int) (L : Nat → Int) (l : List UInt8) : Ob :=
  ⟨fun S w => RD w r a ca hb b cb ps N Q L l ∧ ∀ k, S k ↔ (k = r ∨ k = a ∨ k = hb ∨ k = b),
   fun ⟨d, e⟩ hk hs => ⟨d.keep (hk _ d.lt.1 ((e _).2 (by simp))) (hk _ d.lt.2.1 ((e _).2 (by simp))) (hk _ d.lt.2.2.1 ((e _).2 (by simp))) (hk _ d.lt.2.2.2 ((e _).2 (by simp))) hs, e⟩,
   fun ⟨d, e⟩ hb => by
     rcases (e _).1 hb with rfl | rfl | rfl | rfl
     · exact d.lt.1
     · exact d.lt.2.1
     · exact d.lt.2.2.1
     · exact d.lt.2.2.2⟩
def obRD (r : Nat) (ps : List (Int × Int)) (N : Nat) (Q : Int) (L : Nat → Int) (l : List UInt8) : Ob := obX fun x : Nat × Nat × Nat × Nat × Nat => obRD1 r x.1 x.2.1 x.2.2.1 x.2.2.2.1 x.2.2.2.2 ps N Q L l
section
variable {S : Nat → Prop} {W0 w w' : World} {os os' : List Ob} {i r : Nat} {ps : List (Int × Int)} {N : Nat} {Q : Int} {L L' : Nat → Int} {l l' : List UInt8}
theorem Tk.rd (t : Tk S W0 os w) (hi : os[i]? = some (obRD r ps N Q L l)) : ∃ a ca hb b cb, RD w r a ca hb b cb ps N Q L l ∧ ∀ w' L' l', RD w' r a ca hb b cb ps N Q L' l' → (w.grownBy w' (some b) ∨ w.grownBy w' (some hb)) → Tk S W0 (os.set i (obRD r ps N Q L' l')) w' := by
  obtain ⟨S1, ⟨⟨a, ca, hb, b, cb⟩, q⟩, _, k⟩ := t.call hi
  refine ⟨a, ca, hb, b, cb, q.1, fun w' L' l' hp hg => k w' _ [] ⟨S1, obs_one.2 ⟨(a, ca, hb, b, cb), hp, q.2⟩, fun _ _ h => h, ?_⟩⟩
  rcases hg with hg | hg
  · exact (Fo.refl _ _).grown hg (fun x hx => .inl ((q.2 x).2 (.inr (.inr (.inr (by injection hx with hx; exact hx.symm))))))
  · exact (Fo.refl _ _).grown hg (fun x hx => .inl ((q.2 x).2 (.inr (.inr (.inl (by injection hx with hx; exact hx.symm))))))
end

section
variable {w : World} {r a ca hb b cb : Nat} {ps : List (Int × Int)} {N : Nat} {Q : Int} {L : Nat → Int} {l : List UInt8}
theorem rthere_any (p : Int) (d : RD w r a ca hb b cb ps N Q L l) :
    Calls Try.prog 33 #[.pointer (some ⟨r, 0, none⟩), .int .i64 p] w fun e w' => e = .returned (.bool (inP ps.length p)) ∧ w = w' := by
  obtain ⟨_, _, _, c0⟩ := d.heads
  clear d
  generalize ps.length = P at *
  have HB := Lib.hid (show inP P p = decide (0 ≤ p ∧ p < (P : Int)) from rfl)
  by_cases h0 : 0 ≤ p
  · by_cases h1 : p < (P : Int)
    · go_enter Try.func33, Try.ntmps33
      go_wp2
      go_ret
      exact ⟨by rw [HB.out, decide_eq_true (show 0 ≤ p ∧ p < (P : Int) from ⟨h0, h1⟩)]; rfl, rfl⟩
    · go_enter Try.func33, Try.ntmps33
      go_wp2
      go_ret
      exact ⟨by rw [HB.out, decide_eq_false (show ¬ (0 ≤ p ∧ p < (P : Int)) by omega)]; rfl, rfl⟩
  · go_enter Try.func33, Try.ntmps33
    go_wp2
    go_ret
    exact ⟨by rw [HB.out, decide_eq_false (show ¬ (0 ≤ p ∧ p < (P : Int)) by omega)]; rfl, rfl⟩

theorem rleft_any (p : Int) (d : RD w r a ca hb b cb ps N Q L l) :
    Calls Try.prog 23 #[.pointer (some ⟨r, 0, none⟩), .int .i64 p] w fun e w' => e = .returned (.int .i64 (dlX ps.length L p)) ∧ w = w' := by
  have HD := Lib.hid d
  cases hin : inP ps.length p with
  | true =>
    have HX := Lib.hid (show dlX ps.length L p = L p.toNat by simp [dlX, hin])
    have HB := Lib.hid hin
    obtain ⟨k, rfl, hk⟩ := (inP_iff _ _).1 hin
    rw [Int.toNat_natCast] at HX
    have c0 := d.at_ k hk
    obtain ⟨_, _, _, c3⟩ := d.heads
    have hkI : (k : Int) < ps.length := by omega
    clear d hin
    go_enter Try.func23, Try.ntmps23
    go_wp2_with fail
    refine (rthere_any _ HD.out).mono ?_
    rintro e w' ⟨rfl, rfl⟩
    rw [HB.out]
    go_wp2_with fail
    go_ret
    exact ⟨by rw [HX.out]; rfl, rfl⟩
  | false =>
    have HX := Lib.hid (show dlX ps.length L p = 0 by simp [dlX, hin])
    have HB := Lib.hid hin
    clear d hin
    go_enter Try.func23, Try.ntmps23
    go_wp2_with fail
    refine (rthere_any _ HD.out).mono ?_
    rintro e w' ⟨rfl, rfl⟩
    rw [HB.out]
    go_wp2_with fail
    go_ret
    exact ⟨by rw [HX.out]; rfl, rfl⟩

theorem ropen_any (p : Int) (d : RD w r a ca hb b cb ps N Q L l) :
    Calls Try.prog 21 #[.pointer (some ⟨r, 0, none⟩), .int .i64 p] w fun e w' => e = .returned (.int .i64 (doC ps.length p)) ∧ RD w' r a ca hb b cb ps N Q (doF ps.length Q L p) l ∧ w.grownBy w' (some b) := by
  have HD := Lib.hid d
  cases hin : inP ps.length p with
  | true =>
    have HX := Lib.hid (show doC ps.length p = 0 ∧ doF ps.length Q L p = iF L p.toNat Q by simp [doC, doF, hin])
    have HB := Lib.hid hin
    obtain ⟨k, rfl, hk⟩ := (inP_iff _ _).1 hin
    rw [Int.toNat_natCast] at HX
    obtain ⟨_, c1, _, c3⟩ := d.heads
    have f0 := d.frozen k
    have c0 := d.at_ k hk
    have hkI : (k : Int) < ps.length := by omega
    have HS := Lib.hid ((d.drewN 1).set k Q d.qb)
    have HG := Lib.hid (show w.grownBy (w.drew.setCell ⟨b, k, none⟩ (.int .i64 Q)) (some b) from gset (gdrewN (grefl w _) 1) (.inl rfl) _)
    clear d hin
    go_enter Try.func21, Try.ntmps21
    go_wp2_with fail
    refine (rthere_any _ HD.out).mono ?_
    rintro e w' ⟨rfl, rfl⟩
    rw [HB.out]
    go_wp2_with fail
    go_still_tail 10, (by kernel_rfl)
    change wpList _ _ _ _ _ w.drew
    replace f0 : w.drew.frozen? ⟨b, k, none⟩ = false := f0
    replace c0 : w.drew.cell? ⟨b, k, none⟩ = some (.int .i64 (L k)) := c0
    go_wp2_with fail
    go_ret
    exact ⟨by rw [HX.out.1]; rfl, by rw [HX.out.2]; exact HS.out, HG.out⟩
  | false =>
    have HX := Lib.hid (show doC ps.length p = 1900 ∧ doF ps.length Q L p = L by simp [doC, doF, hin])
    have HB := Lib.hid hin
    clear d hin
    go_enter Try.func21, Try.ntmps21
    go_wp2_with fail
    refine (rthere_any _ HD.out).mono ?_
    rintro e w' ⟨rfl, rfl⟩
    rw [HB.out]
    go_wp2_with fail
    go_ret
    exact ⟨by rw [HX.out.1]; rfl, by rw [HX.out.2]; exact HD.out, grefl _ _⟩

theorem rspend_any (p n : Int) (d : RD w r a ca hb b cb ps N Q L l) :
    Calls Try.prog 19 #[.pointer (some ⟨r, 0, none⟩), .int .i64 p, .int .i64 n] w fun e w' => e = .returned (.int .i64 (dsC ps.length L p n)) ∧ RD w' r a ca hb b cb ps N Q (dsF ps.length L p n) l ∧ w.grownBy w' (some b) := by
  have HD := Lib.hid d
  cases hin : inP ps.length p with
  | true =>
    have HB := Lib.hid hin
    obtain ⟨k, rfl, hk⟩ := (inP_iff _ _).1 hin
    by_cases h0 : 0 ≤ n
    · have n0 : decide (n < 0) = false := by simp; omega
      have c0 := d.at_ k hk
      obtain ⟨_, c1, _, c3⟩ := d.heads
      have hkI : (k : Int) < ps.length := by omega
      obtain ⟨l0, l64⟩ := d.lb k
      by_cases h1 : n ≤ L k
      · have HX := Lib.hid (show dsC ps.length L k n = 0 ∧ dsF ps.length L k n = iF L k (L k - n) by simp [dsC, dsF, hin, h0, h1])
        have f0 := d.frozen k
        have HS := Lib.hid ((d.drewN 1).set k (L k - n) (by omega))
        have HG := Lib.hid (show w.grownBy (w.drew.setCell ⟨b, k, none⟩ (.int .i64 (L k - n))) (some b) from gset (gdrewN (grefl w _) 1) (.inl rfl) _)
        have n1 : IntKind.i64.wrap (L k - n) = L k - n := by rw [IntKind.wrap_i64]; omega
        clear d hin
        go_enter Try.func19, Try.ntmps19
        go_wp2_with fail
        refine (rthere_any _ HD.out).mono ?_
        rintro e w' ⟨rfl, rfl⟩
        rw [HB.out]
        go_wp2_with fail
        go_still_tail 15, (by kernel_rfl)
        change wpList _ _ _ _ _ w.drew
        replace f0 : w.drew.frozen? ⟨b, k, none⟩ = false := f0
        replace c0 : w.drew.cell? ⟨b, k, none⟩ = some (.int .i64 (L k)) := c0
        go_wp2_with fail
        go_ret
        exact ⟨by rw [HX.out.1]; rfl, by rw [HX.out.2]; exact HS.out, HG.out⟩
      · have HX := Lib.hid (show dsC ps.length L k n = 1901 ∧ dsF ps.length L k n = L by simp [dsC, dsF, hin, h0, h1])
        have h2 : L k < n := by omega
        clear d hin h1
        go_enter Try.func19, Try.ntmps19
        go_wp2_with fail
        refine (rthere_any _ HD.out).mono ?_
        rintro e w' ⟨rfl, rfl⟩
        rw [HB.out]
        go_wp2_with fail
        go_ret
        exact ⟨by rw [HX.out.1]; rfl, by rw [HX.out.2]; exact HD.out, grefl _ _⟩
    · have HX := Lib.hid (show dsC ps.length L k n = 1900 ∧ dsF ps.length L k n = L by simp [dsC, dsF, h0])
      have h2 : n < 0 := by omega
      clear d hin h0
      go_enter Try.func19, Try.ntmps19
      go_wp2_with fail
      refine (rthere_any _ HD.out).mono ?_
      rintro e w' ⟨rfl, rfl⟩
      rw [HB.out]
      go_wp2_with fail
      go_ret
      exact ⟨by rw [HX.out.1]; rfl, by rw [HX.out.2]; exact HD.out, grefl _ _⟩
  | false =>
    have HX := Lib.hid (show dsC ps.length L p n = 1900 ∧ dsF ps.length L p n = L by simp [dsC, dsF, hin])
    have HB := Lib.hid hin
    clear d hin
    go_enter Try.func19, Try.ntmps19
    go_wp2_with fail
    refine (rthere_any _ HD.out).mono ?_
    rintro e w' ⟨rfl, rfl⟩
    rw [HB.out]
    go_wp2_with fail
    go_ret
    exact ⟨by rw [HX.out.1]; rfl, by rw [HX.out.2]; exact HD.out, grefl _ _⟩
end

end Go.Proofs.Ytjccdimmfhkipaa
