/-
  Contracts of package iommu: what it holds (Ix); isDevice, isPage, root, framesOf, rootPlace, leafPlace, asked, errorOf.
-/
import Derived.Test.YtggdbiniklchoaaIow
import Derived.Test.YtggdbiniklchoaaIoAll
import Derived.Test.YtggdbiniklchoaaPhysAll
import Derived.Test.YtggdbiniklchoaaPteAll
import Derived.Test.YtggdbiniklchoaaWalkAll
import Derived.Test.YtggdbiniklchoaaPlain2
namespace Go.Proofs.Ytggdbiniklchoaa
open Go.RowKit
set_option linter.unusedVariables false
set_option maxRecDepth 100000

/-- The program's Iommu: block x holds the memory's address g, the pools v, the cache's address t; the pools ps are a memory's of l's length. -/
structure Ix (B : Nat) (w : World) (x g t : Nat) (v : Value) (ps : List (List Int)) (l : List UInt8) : Prop where
  sx : Blk w x 74 [.pointer (some ⟨g, 0, none⟩), v, .pointer (some ⟨t, 0, none⟩)]
  pl : PL w B v ps
  pm : PM w g l
  n1 : 1 ≤ ps.length
  n4 : ps.length ≤ 4
  lens : ∀ p ∈ ps, 2 ≤ p.length ∧ p.length ≤ 5
  inr : ∀ p ∈ ps, ∀ f ∈ p, 0 ≤ f ∧ f < frs l

section
variable {B : Nat} {w w' : World} {x g t : Nat} {v : Value} {ps : List (List Int)} {l : List UInt8}
theorem Ix.drewN (h : Ix B w x g t v ps l) (k : Nat) : Ix B (w.drewN k) x g t v ps l := ⟨h.sx.drewN k, h.pl.drewN k, h.pm.drewN k, h.n1, h.n4, h.lens, h.inr⟩
theorem Ix.below (h : Ix B w x g t v ps l) {N : Nat} (hb : Below N w w') (hN : w.heap.size ≤ N) : Ix B w' x g t v ps l :=
  ⟨h.sx.below hb (Nat.lt_of_lt_of_le h.sx.lt hN), h.pl.below hb hN, h.pm.below hb (Nat.lt_of_lt_of_le h.pm.lt hN), h.n1, h.n4, h.lens, h.inr⟩
theorem Ix.alloc (h : Ix B w x g t v ps l) (o : Obj) : Ix B (w.alloc o) x g t v ps l := ⟨h.sx.alloc o, h.pl.alloc o, h.pm.alloc o, h.n1, h.n4, h.lens, h.inr⟩
/-- A device's pool. -/
theorem Ix.pool (h : Ix B w x g t v ps l) {d : Int} (h0 : 0 ≤ d) (h1 : d < ps.length) : ioPool ps d ∈ ps ∧ 2 ≤ (ioPool ps d).length ∧ (ioPool ps d).length ≤ 5 ∧ 0 ≤ ioRoot ps d ∧ ioRoot ps d < frs l := by
  have hm : ioPool ps d ∈ ps := by
    unfold ioPool
    have : d.toNat < ps.length := by omega
    rw [List.getD, List.getElem?_eq_getElem this]
    exact List.getElem_mem this
  have hl := h.lens _ hm
  have hr := h.inr _ hm (ioRoot ps d) (by
    unfold ioRoot
    have : 0 < (ioPool ps d).length := by omega
    rw [List.getD, List.getElem?_eq_getElem this]
    exact List.getElem_mem this)
  exact ⟨hm, hl.1, hl.2, hr.1, hr.2⟩
theorem Ix.frs (h : Ix B w x g t v ps l) : ∃ m : Nat, 1 ≤ m ∧ m ≤ 64 ∧ l.length = 64 * m ∧ Proofs.Ytggdbiniklchoaa.frs l = m := by
  obtain ⟨m, h1, h2, h3, _⟩ := h.pm.size
  exact ⟨m, h1, h2, h3, by unfold Proofs.Ytggdbiniklchoaa.frs; omega⟩
theorem Ix.cells (h : Ix B w x g t v ps l) : w.cell? ⟨x, 0, none⟩ = some (.pointer (some ⟨g, 0, none⟩)) ∧ w.cell? ⟨x, 1, none⟩ = some v ∧ w.cell? ⟨x, 2, none⟩ = some (.pointer (some ⟨t, 0, none⟩)) := ⟨by rw [h.sx.cell]; rfl, by rw [h.sx.cell]; rfl, by rw [h.sx.cell]; rfl⟩
end

def dvB (n : Nat) (d : Int) : Bool := decide (0 ≤ d ∧ d < n)
theorem dvB_yes {n : Nat} {d : Int} (h0 : 0 ≤ d) (h1 : d < n) : dvB n d = true := decide_eq_true ⟨h0, h1⟩
theorem dvB_no {n : Nat} {d : Int} (h : ¬ (0 ≤ d ∧ d < n)) : dvB n d = false := decide_eq_false h

section
variable {B : Nat} {x g t : Nat} {v : Value} {ps : List (List Int)} {l : List UInt8}
theorem isdev_any (d : Int) (w : World) (h : Ix B w x g t v ps l) :
    Calls Try.prog 45 #[.pointer (some ⟨x, 0, none⟩), .int .i64 d] w fun e w' => e = .returned (.bool (dvB ps.length d)) ∧ w = w' := by
  obtain ⟨_, c1, _⟩ := h.cells
  obtain ⟨b, cap, rfl, _, _, _⟩ := h.pl.slice h.n1
  clear h
  have E0 : Hid (∀ r, dvB ps.length d = r ↔ dvB ps.length d = r) := Lib.hid (fun _ => Iff.rfl)
  by_cases h0 : 0 ≤ d
  · by_cases h1 : d < ps.length
    · rw [dvB_yes h0 h1]
      go_enter Try.func45, Try.ntmps45
      go_wp2
      go_ret
      exact ⟨rfl, rfl⟩
    · rw [dvB_no (fun e => h1 e.2)]
      go_enter Try.func45, Try.ntmps45
      go_wp2
      go_ret
      exact ⟨rfl, rfl⟩
  · rw [dvB_no (fun e => h0 e.1)]
    go_enter Try.func45, Try.ntmps45
    go_wp2
    go_ret
    exact ⟨rfl, rfl⟩

theorem ispage_any (d p : Int) (w : World) (h : Ix B w x g t v ps l) :
    Calls Try.prog 39 #[.pointer (some ⟨x, 0, none⟩), .int .i64 d, .int .i64 p] w fun e w' => e = .returned (.bool (thB ps.length d p)) ∧ w = w' := by
  have H : Hid (Ix B w x g t v ps l) := Lib.hid h
  have e1 : thB ps.length d p = (dvB ps.length d && decide (0 ≤ p ∧ p < 256)) := by unfold thB dvB; rw [← Bool.decide_and]; congr 1; rw [and_assoc]
  rw [e1]; clear e1 h
  cases hd : dvB ps.length d with
  | false =>
    have HD := Lib.hid hd; clear hd
    go_enter Try.func39, Try.ntmps39
    go_wp2_with fail
    refine (isdev_any d _ H.out).mono ?_
    rintro e w' ⟨rfl, rfl⟩
    rw [HD.out]
    go_wp2
    go_ret
    exact ⟨rfl, rfl⟩
  | true =>
    have HD := Lib.hid hd; clear hd
    by_cases h0 : 0 ≤ p
    · by_cases h1 : p < 256
      · rw [show decide (0 ≤ p ∧ p < 256) = true from decide_eq_true ⟨h0, h1⟩]
        go_enter Try.func39, Try.ntmps39
        go_wp2_with fail
        refine (isdev_any d _ H.out).mono ?_
        rintro e w' ⟨rfl, rfl⟩
        rw [HD.out]
        go_wp2
        go_ret
        exact ⟨rfl, rfl⟩
      · rw [show decide (0 ≤ p ∧ p < 256) = false from decide_eq_false (fun e => h1 e.2)]
        have h1' : decide (p < 256) = false := decide_eq_false h1
        go_enter Try.func39, Try.ntmps39
        go_wp2_with fail
        refine (isdev_any d _ H.out).mono ?_
        rintro e w' ⟨rfl, rfl⟩
        rw [HD.out]
        go_wp2
        go_ret
        exact ⟨rfl, rfl⟩
    · rw [show decide (0 ≤ p ∧ p < 256) = false from decide_eq_false (fun e => h0 e.1)]
      go_enter Try.func39, Try.ntmps39
      go_wp2_with fail
      refine (isdev_any d _ H.out).mono ?_
      rintro e w' ⟨rfl, rfl⟩
      rw [HD.out]
      go_wp2
      go_ret
      exact ⟨rfl, rfl⟩

theorem root_any (d : Int) (w : World) (h : Ix B w x g t v ps l) (h0 : 0 ≤ d) (h1 : d < ps.length) :
    Calls Try.prog 61 #[.pointer (some ⟨x, 0, none⟩), .int .i64 d] w fun e w' => e = .returned (.int .i64 (ioRoot ps d)) ∧ w = w' := by
  obtain ⟨_, c1, _⟩ := h.cells
  obtain ⟨_, hl, _⟩ := h.pool h0 h1
  have n4 := h.n4
  obtain ⟨k, rfl⟩ := Int.eq_ofNat_of_zero_le h0
  have hlen : 2 ≤ (ps.getD k []).length := by unfold ioPool at hl; rw [Int.toNat_natCast] at hl; exact hl
  obtain ⟨b, cap, rfl, _, _, hp⟩ := h.pl.slice h.n1
  obtain ⟨q, c, c2, _, _, hlc, c3⟩ := hp k (by omega) (by omega)
  have c4 := c3 0 (by omega)
  clear h c3 hp hl
  unfold ioRoot ioPool
  rw [Int.toNat_natCast]
  generalize (ps.getD k []).getD 0 0 = R at *
  generalize (ps.getD k []).length = n at *
  generalize ps.length = N at *
  go_enter Try.func61, Try.ntmps61
  go_wp2
  go_ret
  exact ⟨rfl, rfl⟩

theorem framesOf_any (w : World) (h : PM w g l) :
    Calls Try.prog 24 #[.pointer (some ⟨g, 0, none⟩)] w fun e w' => e = .returned (.int .i64 (frs l)) ∧ w = w' := by
  have H : Hid (PM w g l) := Lib.hid h
  obtain ⟨m, h1, h2, h3, _⟩ := h.size
  have e1 : frs l = m := by unfold frs; omega
  have hl : (l.length : Int) = 64 * m := by omega
  rw [e1]; clear h e1 h3
  go_enter Try.func24, Try.ntmps24
  go_wp2_with fail
  refine (psize_any g l _ H.out).mono ?_
  rintro e w' ⟨rfl, rfl⟩
  rw [hl]
  clear hl
  go_wp2
  go_ret
  exact ⟨by first | rfl | (congr 3; omega), rfl⟩

theorem rootPlace_any (r p : Int) (w : World) (h0 : 0 ≤ r) (h1 : r < 64) (hp0 : 0 ≤ p) (hp1 : p < 256) :
    Calls Try.prog 60 #[.int .i64 r, .int .i64 p] w fun e w' => e = .returned (.int .i64 (r * 64 + p / 16 * 4)) ∧ w = w' := by
  go_enter Try.func60, Try.ntmps60
  go_wp2
  go_ret
  exact ⟨by first | rfl | (congr 3; omega), rfl⟩

theorem leafPlace_any (r p : Int) (w : World) (h0 : 0 ≤ r) (h1 : r < 64) (hp0 : 0 ≤ p) (hp1 : p < 256) :
    Calls Try.prog 44 #[.int .i64 r, .int .i64 p] w fun e w' => e = .returned (.int .i64 (r * 64 + p % 16 * 4)) ∧ w = w' := by
  go_enter Try.func44, Try.ntmps44
  go_wp2
  go_ret
  exact ⟨by first | rfl | (congr 3; omega), rfl⟩

theorem asked_any (b : Bool) (w : World) :
    Calls Try.prog 67 #[.bool b] w fun e w' => e = .returned (.int .i64 (if b then 2 else 1)) ∧ w = w' := by
  cases b with
  | true =>
    go_enter Try.func67, Try.ntmps67
    go_wp2
    go_ret
    exact ⟨rfl, rfl⟩
  | false =>
    go_enter Try.func67, Try.ntmps67
    go_wp2
    go_ret
    exact ⟨rfl, rfl⟩

theorem errorOf_any (c : Int) (w : World) :
    Calls Try.prog 71 #[.int .i64 c] w fun e w' => e = .returned (.int .i64 (if c = 501 then 702 else 704)) ∧ w = w' := by
  by_cases h : c = 501
  · rw [if_pos h]; subst h
    go_enter Try.func71, Try.ntmps71
    go_wp2
    go_ret
    exact ⟨rfl, rfl⟩
  · rw [if_neg h]
    have h' : (c == 501) = false := by simpa using h
    go_enter Try.func71, Try.ntmps71
    go_wp2
    go_ret
    exact ⟨rfl, rfl⟩
end

end Go.Proofs.Ytggdbiniklchoaa

namespace Go.Proofs.Ytggdbiniklchoaa
open Go.RowKit
set_option linter.unusedVariables false
set_option maxRecDepth 100000

/-- The leaf that word i of root r leads to, as the program tells it. -/
def lfN (l : List UInt8) (r i : Int) : Int := if 0 ≤ lfI l r i then lfI l r i else 0
def lfB (l : List UInt8) (r i : Int) : Bool := decide (0 ≤ lfI l r i)

theorem lf_cases (l : List UInt8) (r i : Int) (m : Nat) (hm : l.length = 64 * m) :
    (gB (sW l r i) = false ∧ lfN l r i = 0 ∧ lfB l r i = false ∧ lfI l r i = -1) ∨
    (gB (sW l r i) = true ∧ gP (sW l r i) ≠ 3 ∧ lfN l r i = 0 ∧ lfB l r i = false ∧ lfI l r i = -1) ∨
    (gB (sW l r i) = true ∧ gP (sW l r i) = 3 ∧ (m : Int) ≤ gF (sW l r i) ∧ lfN l r i = 0 ∧ lfB l r i = false ∧ lfI l r i = -1) ∨
    (gB (sW l r i) = true ∧ gP (sW l r i) = 3 ∧ gF (sW l r i) < m ∧ 0 ≤ gF (sW l r i) ∧ lfN l r i = gF (sW l r i) ∧ lfB l r i = true ∧ lfI l r i = gF (sW l r i) ∧ sC l r i = 0 ∧ sP l r i = 3 ∧ sF l r i = gF (sW l r i)) := by
  have no : lfI l r i = -1 → lfN l r i = 0 ∧ lfB l r i = false ∧ lfI l r i = -1 := by
    intro h; unfold lfN lfB; rw [h]; exact ⟨rfl, rfl, rfl⟩
  rcases s_cases l r i m hm with ⟨h1, h2, h3, h4⟩ | ⟨h1, h5, h2, h3, h4⟩ | ⟨h1, h5, h6, h2, h3, h4⟩ | ⟨h1, h5, h6, h2, h3, h4⟩
  · exact .inl ⟨h1, no (by unfold lfI; rw [h2]; rfl)⟩
  · by_cases h3' : gP (sW l r i) = 3
    · exact .inr (.inr (.inl ⟨h1, h3', h5, no (by unfold lfI; rw [h2]; rfl)⟩))
    · exact .inr (.inl ⟨h1, h3', no (by unfold lfI; rw [h2]; rfl)⟩)
  · exact .inr (.inl ⟨h1, by omega, no (by unfold lfI; rw [h2]; rfl)⟩)
  · by_cases h3' : gP (sW l r i) = 3
    · have hb := g_bounds _ h1
      have e : lfI l r i = gF (sW l r i) := by unfold lfI; rw [h2, h4, h3', if_pos ⟨rfl, rfl⟩, h3]
      exact .inr (.inr (.inr ⟨h1, h3', h5, hb.1, by unfold lfN; rw [e, if_pos hb.1], by unfold lfB; rw [e]; exact decide_eq_true hb.1, e, h2, by rw [h4, h3'], h3⟩))
    · exact .inr (.inl ⟨h1, h3', no (by unfold lfI; rw [h4, if_neg (fun e => h3' e.2)])⟩)

section
variable {B : Nat} {x g t : Nat} {v : Value} {ps : List (List Int)} {l : List UInt8}
set_option maxHeartbeats 2000000 in
theorem leafOf_any (d p : Int) (w : World) (h : Ix B w x g t v ps l) (h0 : 0 ≤ d) (h1 : d < ps.length) (hp0 : 0 ≤ p) (hp1 : p < 256) :
    Calls Try.prog 41 #[.pointer (some ⟨x, 0, none⟩), .int .i64 d, .int .i64 p] w fun e w' => e = .returned (.tuple #[.int .i64 (lfN l (ioRoot ps d) (p / 16)), .bool (lfB l (ioRoot ps d) (p / 16))]) ∧ Below w.heap.size w w' := by
  have H : Hid (Ix B w x g t v ps l) := Lib.hid h
  obtain ⟨c0, c1, c2⟩ := h.cells
  obtain ⟨m, hm1, hm2, hm, hf⟩ := h.frs
  obtain ⟨_, _, _, hr0, hr1⟩ := h.pool h0 h1
  have hX : wdN l (ioRoot ps d * 64 + p / 16 * 4) = sW l (ioRoot ps d) (p / 16) := rfl
  have hE := wd_yes l (ioRoot ps d * 64 + p / 16 * 4) (by omega) (by omega) (by omega)
  have hs := lf_cases l (ioRoot ps d) (p / 16) m hm
  have hbd := g_bounds (sW l (ioRoot ps d) (p / 16))
  have K1 : Hid (∀ k, Calls Try.prog 61 #[.pointer (some ⟨x, 0, none⟩), .int .i64 d] (w.drewN k) fun e w' => e = .returned (.int .i64 (ioRoot ps d)) ∧ w.drewN k = w') := Lib.hid fun k => root_any d _ (h.drewN k) h0 h1
  generalize hRR : ioRoot ps d = R at *
  have K2 : Hid (∀ W, Calls Try.prog 60 #[.int .i64 R, .int .i64 p] W fun e w' => e = .returned (.int .i64 (R * 64 + p / 16 * 4)) ∧ W = w') := Lib.hid fun W => rootPlace_any R p W hr0 (by omega) hp0 hp1
  have K3 : Hid (∀ k, Calls Try.prog 59 #[.pointer (some ⟨g, 0, none⟩), .int .i64 (R * 64 + p / 16 * 4)] (w.drewN k) fun e w' => e = .returned (.tuple #[.int .i64 (sW l R (p / 16)), .int .i64 0]) ∧ w.drewN k = w') := Lib.hid fun k => pword_is g l _ _ 0 _ (h.pm.drewN k) hX hE
  generalize sW l R (p / 16) = X at *
  generalize lfN l R (p / 16) = LN at *
  generalize lfB l R (p / 16) = LB at *
  have HS := Lib.hid hs; have HD := Lib.hid hbd; have HF := Lib.hid hf
  clear hX hE hs hbd hm hf hr1 hRR h
  go_enter Try.func41, Try.ntmps41
  go_wp2_with fail
  go_quiet ((first
    | (go_at_call 61; first | exact quiet_at K1.out | exact quiet_at_a K1.out)
    | (go_at_call 60; first | exact quiet_ K2.out | exact quiet_a K2.out)
    | (go_at_call 59; first | exact quiet_at K3.out | exact quiet_at_a K3.out)))
  go_wp2_with fail
  have hbw : Below w.heap.size w (w.drewN nq) := bdrewN (Below.refl _ _) nq
  have hix := H.out.drewN nq
  have hsz : (w.drewN nq).heap.size = w.heap.size := rfl
  generalize hFF : gF X = FF at *
  generalize hPP : gP X = PP at *
  have HFF := Lib.hid hFF; have HPP := Lib.hid hPP; clear hFF hPP
  generalize w.drewN nq = w0 at *
  refine (eget_is X FF PP _ _ HFF.out HPP.out rfl).mono ?_
  rintro e w1 ⟨rfl, b1⟩
  have hs1 := b1.size
  have hix2 := (hix.below b1 (Nat.le_refl _)).alloc (.cells #[.int .i64 FF, .int .i64 PP] 46)
  obtain ⟨d0, d1, d2⟩ := hix2.cells
  have hblk := Blk.new w1 46 [.int .i64 FF, .int .i64 PP]
  have hb : Below w.heap.size w (w1.alloc (.cells #[.int .i64 FF, .int .i64 PP] 46)) := (Below.down hbw b1 (by omega)).alloc (by have := hbw.size; omega) _
  obtain ⟨c10, c11, _, _⟩ := two_at hblk
  have HB := Lib.hid hb; have HIX := Lib.hid hix2
  clear hbw hb hblk b1 hix hix2 hs1 hsz
  have K4 : Hid (∀ k, Calls Try.prog 24 #[.pointer (some ⟨g, 0, none⟩)] ((w1.alloc (.cells #[.int .i64 FF, .int .i64 PP] 46)).drewN k) fun e w' => e = .returned (.int .i64 m) ∧ (w1.alloc (.cells #[.int .i64 FF, .int .i64 PP] 46)).drewN k = w') := Lib.hid fun k => by
    have := framesOf_any (l := l) _ (HIX.out.pm.drewN k)
    rw [HF.out] at this
    exact this
  rcases HS.out with ⟨hg, e1, e2, _⟩ | ⟨hg, hp, e1, e2, _⟩ | ⟨hg, hp, hf, e1, e2, _⟩ | ⟨hg, hp, hf, _, e1, e2, _⟩
  · rw [hg, show e4 false = 400 from rfl]
    have E1 := Lib.hid e1; have E2 := Lib.hid e2; clear e1 e2 hg
    go_wp2_with fail
    go_quiet ((go_at_call 24; first | exact quiet_at K4.out | exact quiet_at_a K4.out))
    go_wp2_with fail
    go_ret2
    exact ⟨by rw [E1.out, E2.out]; rfl, bdrewN HB.out _⟩
  · rw [hg, show e4 true = 0 from rfl]
    have hp' : (PP == 3) = false := by simpa using hp
    have hp2 : decide (PP = 3) = false := by simpa using hp
    have hp3 : (PP != 3) = true := by simpa using hp
    have E1 := Lib.hid e1; have E2 := Lib.hid e2; clear e1 e2 hg hp
    go_wp2_with fail
    go_quiet ((go_at_call 24; first | exact quiet_at K4.out | exact quiet_at_a K4.out))
    go_wp2_with fail
    go_ret2
    exact ⟨by rw [E1.out, E2.out]; rfl, bdrewN HB.out _⟩
  · rw [hg, show e4 true = 0 from rfl]
    subst hp
    have hf' : decide ((m : Int) ≤ FF) = true := decide_eq_true hf
    have E1 := Lib.hid e1; have E2 := Lib.hid e2; clear e1 e2 hg hf
    go_wp2_with fail
    go_quiet ((go_at_call 24; first | exact quiet_at K4.out | exact quiet_at_a K4.out))
    go_wp2_with fail
    go_ret2
    exact ⟨by rw [E1.out, E2.out]; rfl, bdrewN HB.out _⟩
  · rw [hg, show e4 true = 0 from rfl]
    subst hp
    have hf' : decide ((m : Int) ≤ FF) = false := decide_eq_false (by omega)
    have E1 := Lib.hid e1; have E2 := Lib.hid e2; clear e1 e2 hg hf
    go_wp2_with fail
    go_quiet ((go_at_call 24; first | exact quiet_at K4.out | exact quiet_at_a K4.out))
    go_wp2_with fail
    go_ret2
    exact ⟨by rw [E1.out, E2.out]; rfl, bdrewN HB.out _⟩

/-- Do the tables have this entry for a page? -/
def stB (l : List UInt8) (r p f q : Int) : Bool := lfB l r (p / 16) && (decide (f < frs l) && (eB f q && decide (sW l (lfN l r (p / 16)) (p % 16) = eN f q)))

set_option maxHeartbeats 2000000 in
theorem stands_any (d p f q : Int) (w : World) (h : Ix B w x g t v ps l) (h0 : 0 ≤ d) (h1 : d < ps.length) (hp0 : 0 ≤ p) (hp1 : p < 256) :
    Calls Try.prog 69 #[.pointer (some ⟨x, 0, none⟩), .int .i64 d, .int .i64 p, .agg #[.int .i64 f, .int .i64 q]] w fun e w' => e = .returned (.bool (stB l (ioRoot ps d) p f q)) ∧ Below w.heap.size w w' := by
  obtain ⟨m, hm1, hm2, hm, hf⟩ := h.frs
  have hs := lf_cases l (ioRoot ps d) (p / 16) m hm
  have K0 : ∀ W, Ix B W x g t v ps l → Calls Try.prog 41 #[.pointer (some ⟨x, 0, none⟩), .int .i64 d, .int .i64 p] W fun e w' => e = .returned (.tuple #[.int .i64 (lfN l (ioRoot ps d) (p / 16)), .bool (lfB l (ioRoot ps d) (p / 16))]) ∧ Below W.heap.size W w' := fun W hW => leafOf_any d p W hW h0 h1 hp0 hp1
  unfold stB
  rw [hf]
  generalize ioRoot ps d = R at *
  have hw := h.alloc (.cells #[.int .i64 f, .int .i64 q] 46)
  have hblk := Blk.new w 46 [.int .i64 f, .int .i64 q]
  have hb := (Below.refl w.heap.size w).alloc (Nat.le_refl _) (.cells #[.int .i64 f, .int .i64 q] 46)
  have K := Lib.hid K0; have HS := Lib.hid hs; have HF := Lib.hid hf
  clear K0 hs hf h
  change Blk (w.alloc (.cells #[.int .i64 f, .int .i64 q] 46)) _ _ _ at hblk
  cases hLB : lfB l R (p / 16) with
  | false =>
    have HLB := Lib.hid hLB; clear hLB
    go_enter Try.func69, Try.ntmps69
    go_wp2_with fail
    refine (K.out _ hw).mono ?_
    rintro e w1 ⟨rfl, b1⟩
    rw [HLB.out]
    go_wp2_with fail
    go_quiet (fail)
    go_wp2_with fail
    go_ret
    exact ⟨rfl, bdrewN (Below.down hb b1 hb.size) _⟩
  | true =>
    have hlf : 0 ≤ lfN l R (p / 16) ∧ lfN l R (p / 16) < m := by
      rcases HS.out with ⟨_, _, e, _⟩ | ⟨_, _, _, e, _⟩ | ⟨_, _, _, _, e, _⟩ | ⟨_, _, e1, e2, e3, _⟩
      · rw [hLB] at e; cases e
      · rw [hLB] at e; cases e
      · rw [hLB] at e; cases e
      · rw [e3]; exact ⟨e2, e1⟩
    have HLB := Lib.hid hLB; clear hLB
    generalize lfN l R (p / 16) = F at *
    have HFR := HF
    by_cases hfm : f < m
    · have hd : decide ((m : Int) ≤ f) = false := decide_eq_false (by omega)
      rw [show decide (f < (m : Int)) = true from decide_eq_true hfm]
      generalize hX : sW l F (p % 16) = X at *
      replace hX : wdN l (F * 64 + p % 16 * 4) = X := hX
      generalize hN : eN f q = N
      generalize hC : e4 (eB f q) = C
      have HX := Lib.hid hX; have HN := Lib.hid hN; have HC := Lib.hid hC; clear hX hN
      cases hE : eB f q with
      | false =>
        have hC' : C = 400 := by rw [← hC, hE]; rfl
        subst hC'
        clear hC hE
        go_enter Try.func69, Try.ntmps69
        go_wp2_with fail
        refine (K.out _ hw).mono ?_
        rintro e w1 ⟨rfl, b1⟩
        rw [HLB.out]
        replace hw := hw.below b1 (Nat.le_refl _)
        obtain ⟨c0, c1, c2⟩ := hw.cells
        obtain ⟨d0, d1, _, _⟩ := two_at (hblk.below b1 hblk.lt)
        replace hb := Below.down hb b1 hb.size
        have HB := Lib.hid hb; have HW := Lib.hid hw
        clear hb hw hblk b1
        have K4 : Hid (∀ k, Calls Try.prog 24 #[.pointer (some ⟨g, 0, none⟩)] (w1.drewN k) fun e w' => e = .returned (.int .i64 m) ∧ w1.drewN k = w') := Lib.hid fun k => by
          have := framesOf_any (l := l) _ (HW.out.pm.drewN k)
          rw [HFR.out] at this
          exact this
        go_wp2_with fail
        go_quiet ((go_at_call 24; first | exact quiet_at K4.out | exact quiet_at_a K4.out))
        go_wp2_with fail
        replace HW := Lib.hid (HW.out.drewN nq)
        replace HB := Lib.hid (bdrewN HB.out nq)
        replace c0 : (w1.drewN nq).cell? ⟨x, 0, none⟩ = some (.pointer (some ⟨g, 0, none⟩)) := c0
        replace d0 : (w1.drewN nq).cell? ⟨w.heap.size, 0, none⟩ = some (.int .i64 f) := d0
        replace d1 : (w1.drewN nq).cell? ⟨w.heap.size, 1, none⟩ = some (.int .i64 q) := d1
        clear K4
        generalize w1.drewN nq = w2 at *
        have K2 : Hid (∀ W, Calls Try.prog 44 #[.int .i64 F, .int .i64 p] W fun e w' => e = .returned (.int .i64 (F * 64 + p % 16 * 4)) ∧ W = w') := Lib.hid fun W => leafPlace_any F p W hlf.1 (by omega) hp0 hp1
        have K3 : Hid (∀ k, Calls Try.prog 59 #[.pointer (some ⟨g, 0, none⟩), .int .i64 (F * 64 + p % 16 * 4)] (w2.drewN k) fun e w' => e = .returned (.tuple #[.int .i64 X, .int .i64 0]) ∧ w2.drewN k = w') := Lib.hid fun k => pword_is g l _ _ 0 _ (HW.out.pm.drewN k) HX.out (wd_yes l _ (by omega) (by omega) (by omega))
        go_quiet ((first
          | (go_at_call 44; first | exact quiet_ K2.out | exact quiet_a K2.out)
          | (go_at_call 59; first | exact quiet_at K3.out | exact quiet_at_a K3.out)))
        go_wp2_with fail
        refine (eput_is f q _ _ _ HN.out HC.out).mono ?_
        rintro e w3 ⟨rfl, b3⟩
        replace HB := Lib.hid (Below.down (bdrewN HB.out nq) b3 (bdrewN HB.out nq).size)
        clear b3 K2 K3
        go_wp2_with fail
        go_ret
        exact ⟨rfl, HB.out⟩

      | true =>
        have hC' : C = 0 := by rw [← hC, hE]; rfl
        subst hC'
        clear hC hE
        by_cases hXN : X = N
        · subst hXN
          rw [show decide (X = X) = true from decide_eq_true rfl]
          go_enter Try.func69, Try.ntmps69
          go_wp2_with fail
          refine (K.out _ hw).mono ?_
          rintro e w1 ⟨rfl, b1⟩
          rw [HLB.out]
          replace hw := hw.below b1 (Nat.le_refl _)
          obtain ⟨c0, c1, c2⟩ := hw.cells
          obtain ⟨d0, d1, _, _⟩ := two_at (hblk.below b1 hblk.lt)
          replace hb := Below.down hb b1 hb.size
          have HB := Lib.hid hb; have HW := Lib.hid hw
          clear hb hw hblk b1
          have K4 : Hid (∀ k, Calls Try.prog 24 #[.pointer (some ⟨g, 0, none⟩)] (w1.drewN k) fun e w' => e = .returned (.int .i64 m) ∧ w1.drewN k = w') := Lib.hid fun k => by
            have := framesOf_any (l := l) _ (HW.out.pm.drewN k)
            rw [HFR.out] at this
            exact this
          go_wp2_with fail
          go_quiet ((go_at_call 24; first | exact quiet_at K4.out | exact quiet_at_a K4.out))
          go_wp2_with fail
          replace HW := Lib.hid (HW.out.drewN nq)
          replace HB := Lib.hid (bdrewN HB.out nq)
          replace c0 : (w1.drewN nq).cell? ⟨x, 0, none⟩ = some (.pointer (some ⟨g, 0, none⟩)) := c0
          replace d0 : (w1.drewN nq).cell? ⟨w.heap.size, 0, none⟩ = some (.int .i64 f) := d0
          replace d1 : (w1.drewN nq).cell? ⟨w.heap.size, 1, none⟩ = some (.int .i64 q) := d1
          clear K4
          generalize w1.drewN nq = w2 at *
          have K2 : Hid (∀ W, Calls Try.prog 44 #[.int .i64 F, .int .i64 p] W fun e w' => e = .returned (.int .i64 (F * 64 + p % 16 * 4)) ∧ W = w') := Lib.hid fun W => leafPlace_any F p W hlf.1 (by omega) hp0 hp1
          have K3 : Hid (∀ k, Calls Try.prog 59 #[.pointer (some ⟨g, 0, none⟩), .int .i64 (F * 64 + p % 16 * 4)] (w2.drewN k) fun e w' => e = .returned (.tuple #[.int .i64 X, .int .i64 0]) ∧ w2.drewN k = w') := Lib.hid fun k => pword_is g l _ _ 0 _ (HW.out.pm.drewN k) HX.out (wd_yes l _ (by omega) (by omega) (by omega))
          go_quiet ((first
            | (go_at_call 44; first | exact quiet_ K2.out | exact quiet_a K2.out)
            | (go_at_call 59; first | exact quiet_at K3.out | exact quiet_at_a K3.out)))
          go_wp2_with fail
          refine (eput_is f q _ _ _ HN.out HC.out).mono ?_
          rintro e w3 ⟨rfl, b3⟩
          replace HB := Lib.hid (Below.down (bdrewN HB.out nq) b3 (bdrewN HB.out nq).size)
          clear b3 K2 K3
          go_wp2_with fail
          go_ret
          exact ⟨rfl, HB.out⟩

        · rw [show decide (X = N) = false from decide_eq_false hXN]
          have hXN' : (X == N) = false := by simpa using hXN
          have hXN2 : decide (X = N) = false := decide_eq_false hXN
          go_enter Try.func69, Try.ntmps69
          go_wp2_with fail
          refine (K.out _ hw).mono ?_
          rintro e w1 ⟨rfl, b1⟩
          rw [HLB.out]
          replace hw := hw.below b1 (Nat.le_refl _)
          obtain ⟨c0, c1, c2⟩ := hw.cells
          obtain ⟨d0, d1, _, _⟩ := two_at (hblk.below b1 hblk.lt)
          replace hb := Below.down hb b1 hb.size
          have HB := Lib.hid hb; have HW := Lib.hid hw
          clear hb hw hblk b1
          have K4 : Hid (∀ k, Calls Try.prog 24 #[.pointer (some ⟨g, 0, none⟩)] (w1.drewN k) fun e w' => e = .returned (.int .i64 m) ∧ w1.drewN k = w') := Lib.hid fun k => by
            have := framesOf_any (l := l) _ (HW.out.pm.drewN k)
            rw [HFR.out] at this
            exact this
          go_wp2_with fail
          go_quiet ((go_at_call 24; first | exact quiet_at K4.out | exact quiet_at_a K4.out))
          go_wp2_with fail
          replace HW := Lib.hid (HW.out.drewN nq)
          replace HB := Lib.hid (bdrewN HB.out nq)
          replace c0 : (w1.drewN nq).cell? ⟨x, 0, none⟩ = some (.pointer (some ⟨g, 0, none⟩)) := c0
          replace d0 : (w1.drewN nq).cell? ⟨w.heap.size, 0, none⟩ = some (.int .i64 f) := d0
          replace d1 : (w1.drewN nq).cell? ⟨w.heap.size, 1, none⟩ = some (.int .i64 q) := d1
          clear K4
          generalize w1.drewN nq = w2 at *
          have K2 : Hid (∀ W, Calls Try.prog 44 #[.int .i64 F, .int .i64 p] W fun e w' => e = .returned (.int .i64 (F * 64 + p % 16 * 4)) ∧ W = w') := Lib.hid fun W => leafPlace_any F p W hlf.1 (by omega) hp0 hp1
          have K3 : Hid (∀ k, Calls Try.prog 59 #[.pointer (some ⟨g, 0, none⟩), .int .i64 (F * 64 + p % 16 * 4)] (w2.drewN k) fun e w' => e = .returned (.tuple #[.int .i64 X, .int .i64 0]) ∧ w2.drewN k = w') := Lib.hid fun k => pword_is g l _ _ 0 _ (HW.out.pm.drewN k) HX.out (wd_yes l _ (by omega) (by omega) (by omega))
          go_quiet ((first
            | (go_at_call 44; first | exact quiet_ K2.out | exact quiet_a K2.out)
            | (go_at_call 59; first | exact quiet_at K3.out | exact quiet_at_a K3.out)))
          go_wp2_with fail
          refine (eput_is f q _ _ _ HN.out HC.out).mono ?_
          rintro e w3 ⟨rfl, b3⟩
          replace HB := Lib.hid (Below.down (bdrewN HB.out nq) b3 (bdrewN HB.out nq).size)
          clear b3 K2 K3
          go_wp2_with fail
          go_ret
          exact ⟨rfl, HB.out⟩

    · have hd : decide ((m : Int) ≤ f) = true := decide_eq_true (by omega)
      rw [show decide (f < (m : Int)) = false from decide_eq_false hfm]
      go_enter Try.func69, Try.ntmps69
      go_wp2_with fail
      refine (K.out _ hw).mono ?_
      rintro e w1 ⟨rfl, b1⟩
      rw [HLB.out]
      replace hw := hw.below b1 (Nat.le_refl _)
      obtain ⟨c0, c1, c2⟩ := hw.cells
      obtain ⟨d0, d1, _, _⟩ := two_at (hblk.below b1 hblk.lt)
      replace hb := Below.down hb b1 hb.size
      have HB := Lib.hid hb; have HW := Lib.hid hw
      clear hb hw hblk b1
      have K4 : Hid (∀ k, Calls Try.prog 24 #[.pointer (some ⟨g, 0, none⟩)] (w1.drewN k) fun e w' => e = .returned (.int .i64 m) ∧ w1.drewN k = w') := Lib.hid fun k => by
        have := framesOf_any (l := l) _ (HW.out.pm.drewN k)
        rw [HFR.out] at this
        exact this
      go_wp2_with fail
      go_quiet ((go_at_call 24; first | exact quiet_at K4.out | exact quiet_at_a K4.out))

      go_wp2_with fail
      go_ret
      exact ⟨rfl, bdrewN HB.out _⟩

end
end Go.Proofs.Ytggdbiniklchoaa
