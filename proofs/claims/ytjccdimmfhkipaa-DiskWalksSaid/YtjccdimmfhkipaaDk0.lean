/-
  Layer 19, plain words: what a disk in shares answers and leaves. And the program's Disk: hasPart, Left, Open, Spend.
-/
import Derived.Test.YtjccdimmfhkipaaEx1
import Derived.Test.YtjccdimmfhkipaaPhys0
import Derived.Test.YtjccdimmfhkipaaItc
import Derived.Test.YtjccdimmfhkipaaOb
import Derived.Test.YtjccdimmfhkipaaPlain2
import Derived.StillTailTactics
namespace Go.Proofs.Ytjccdimmfhkipaa
open Go.RowKit
set_option linter.unusedVariables false
set_option linter.unusedSimpArgs false
set_option maxRecDepth 100000

/-- Is there such a partition? -/
def inP (P : Nat) (p : Int) : Bool := decide (0 ≤ p ∧ p < (P : Int))
/-- Left: what a partition has. -/
def dlX (P : Nat) (L : Nat → Int) (p : Int) : Int := if inP P p then L p.toNat else 0
/-- Open: the error; what each has then. -/
def doC (P : Nat) (p : Int) : Int := if inP P p then 0 else 1900
def doF (P : Nat) (Q : Int) (L : Nat → Int) (p : Int) : Nat → Int := if inP P p then iF L p.toNat Q else L
/-- Spend: the error; what each has then. -/
def dsC (P : Nat) (L : Nat → Int) (p n : Int) : Int := if inP P p && decide (0 ≤ n) then (if n ≤ L p.toNat then 0 else 1901) else 1900
def dsF (P : Nat) (L : Nat → Int) (p n : Int) : Nat → Int := if inP P p && decide (0 ≤ n) then (if n ≤ L p.toNat then iF L p.toNat (L p.toNat - n) else L) else L
/-- A run of bytes. -/
def seg (l : List UInt8) (a n : Nat) : List UInt8 := (l.drop a).take n
theorem seg_len (l : List UInt8) (a n : Nat) (h : a + n ≤ l.length) : (seg l a n).length = n := by simp [seg]; omega
/-- Read: the bytes (its error is layer 18's). -/
def drT (ps : List (Int × Int)) (l : List UInt8) (p a n : Int) : List UInt8 := if (toC ps p a n).2 = 0 then seg l ((toC ps p a n).1.toNat * 16) (n.toNat * 16) else []
/-- Write: the error; the disk's bytes then. -/
def dwC (ps : List (Int × Int)) (p a : Int) (s : List UInt8) : Int := if (toC ps p a ((s.length : Int) / 16)).2 = 0 then (if s.length % 16 = 0 then 0 else 1900) else (toC ps p a ((s.length : Int) / 16)).2
def dwL (ps : List (Int × Int)) (l : List UInt8) (p a : Int) (s : List UInt8) : List UInt8 := if dwC ps p a s = 0 then put l ((toC ps p a ((s.length : Int) / 16)).1.toNat * 16) s else l

theorem inP_iff (P : Nat) (p : Int) : inP P p = true ↔ ∃ k : Nat, p = k ∧ k < P := by
  unfold inP
  rw [decide_eq_true_eq]
  constructor
  · intro h; exact ⟨p.toNat, by omega, by omega⟩
  · rintro ⟨k, rfl, h⟩; omega
theorem inP_no {P : Nat} {p : Int} (h : inP P p = false) : p < 0 ∨ (0 ≤ p ∧ (P : Int) ≤ p) := by
  unfold inP at h
  rw [decide_eq_false_iff_not] at h
  omega
/-- Where layer 18 lets it be. -/
theorem toC_in {ps : List (Int × Int)} {s p a n : Int} (hs : extB ps s = true) (h : (toC ps p a n).2 = 0) : ∃ x k : Nat, (toC ps p a n).1 = x ∧ n = k ∧ (x : Int) + k ≤ s := by
  unfold toC at h ⊢
  by_cases h1 : (extB ps 64 && decide (0 ≤ p ∧ p < ps.length)) = true
  · rw [if_pos h1] at h ⊢
    by_cases h2 : runB a n (ps.getD p.toNat (0, 0)).2 = true
    · rw [if_pos h2]
      simp only [Bool.and_eq_true, decide_eq_true_eq] at h1
      have h3 : 0 ≤ a ∧ 0 ≤ n ∧ a ≤ (ps.getD p.toNat (0, 0)).2 ∧ n ≤ (ps.getD p.toNat (0, 0)).2 - a := of_decide_eq_true h2
      obtain ⟨r0, r1, r2, r3⟩ := extB_run hs p.toNat (by omega)
      exact ⟨((ps.getD p.toNat (0, 0)).1 + a).toNat, n.toNat, by simp only; omega, by omega, by omega⟩
    · rw [if_neg h2] at h; cases h
  · rw [if_neg h1] at h; cases h
theorem toC_ext {ps : List (Int × Int)} {p a n : Int} (h : (toC ps p a n).2 = 0) : extB ps 64 = true := by
  unfold toC at h
  by_cases h1 : (extB ps 64 && decide (0 ≤ p ∧ p < ps.length)) = true
  · simp only [Bool.and_eq_true] at h1; exact h1.1
  · rw [if_neg h1] at h; cases h
theorem toC_codes (ps : List (Int × Int)) (p a n : Int) : (toC ps p a n).2 = 0 ∨ ((toC ps p a n).1 = 0 ∧ ((toC ps p a n).2 = 1800 ∨ (toC ps p a n).2 = 1801)) := by
  unfold toC
  split
  · split
    · exact .inl rfl
    · exact .inr ⟨rfl, .inr rfl⟩
  · exact .inr ⟨rfl, .inl rfl⟩

/-- The program's disk: at block g, its shares at block h. -/
structure PD (w : World) (g h : Nat) (ps : List (Int × Int)) (Q : Int) (L : Nat → Int) (l : List UInt8) : Prop where
  p4 : ps.length ≤ 4
  ll : l.length = 1024
  lb : ∀ i, 0 ≤ L i ∧ L i ≤ 64
  qb : 0 ≤ Q ∧ Q ≤ 64
  blk : Blk w g 67 (.slice (some ⟨h, 0, none⟩) ps.length ps.length :: .int .i64 Q :: (itc L 4 ++ bts l))
  par : ∃ t cs, Blk w h t cs ∧ g ≠ h ∧ PtS w (.slice (some ⟨h, 0, none⟩) ps.length ps.length) ps
theorem PtS.same {w w' : World} {h n c : Nat} {ps : List (Int × Int)} {t : TypeId} {cs : List Value} (hp : PtS w (.slice (some ⟨h, 0, none⟩) n c) ps) (hb : Blk w h t cs) (hb' : w'.heap[h]? = w.heap[h]?) (hs : w.heap.size ≤ w'.heap.size) : PtS w' (.slice (some ⟨h, 0, none⟩) n c) ps := by
  obtain ⟨A, cap, e, hn, hA⟩ := hp
  refine ⟨A, cap, e, hn, fun h0 => ?_⟩
  obtain ⟨b, o, e2, hlt, hi⟩ := hA h0
  simp only [Value.slice.injEq] at e
  obtain ⟨rfl, -, -⟩ := e
  simp only [Option.some.injEq, Addr.mk.injEq] at e2
  obtain ⟨rfl, rfl, -⟩ := e2
  have hb2 : Blk w' h t cs := hb'.trans hb
  refine ⟨h, 0, rfl, hb2.lt, fun i hi' => ?_⟩
  obtain ⟨l, c, A2, n2, c2, q0, q1, q2, q3, q4⟩ := hi i hi'
  rw [hb.cell] at q0 q1 q2 q3 q4
  exact ⟨l, c, A2, n2, c2, (hb2.cell _).trans q0, (hb2.cell _).trans q1, (hb2.cell _).trans q2, (hb2.cell _).trans q3, (hb2.cell _).trans q4⟩
section
variable {w w' : World} {g h : Nat} {ps : List (Int × Int)} {Q : Int} {L L' : Nat → Int} {l l' : List UInt8}
theorem PD.lt (d : PD w g h ps Q L l) : g < w.heap.size ∧ h < w.heap.size := by obtain ⟨t, cs, hb, _⟩ := d.par; exact ⟨d.blk.lt, hb.lt⟩
theorem PD.ne (d : PD w g h ps Q L l) : g ≠ h := by obtain ⟨t, cs, hb, e, _⟩ := d.par; exact e
theorem PD.pts (d : PD w g h ps Q L l) : PtS w (.slice (some ⟨h, 0, none⟩) ps.length ps.length) ps := by obtain ⟨t, cs, hb, _, e⟩ := d.par; exact e
theorem PD.heads (d : PD w g h ps Q L l) : w.cell? ⟨g, 0, none⟩ = some (.slice (some ⟨h, 0, none⟩) ps.length ps.length) ∧ w.cell? ⟨g, 1, none⟩ = some (.int .i64 Q) := ⟨by rw [d.blk.cell]; rfl, by rw [d.blk.cell]; rfl⟩
theorem PD.at_ (d : PD w g h ps Q L l) (k : Nat) (hk : k < 4) : w.cell? ⟨g, 2 + k, none⟩ = some (.int .i64 (L k)) := by
  rw [d.blk.cell, show 2 + k = k + 1 + 1 by omega, List.getElem?_cons_succ, List.getElem?_cons_succ, List.getElem?_append_left (by rw [itc_len]; exact hk), itc_get _ _ _ hk]
theorem PD.byte (d : PD w g h ps Q L l) (k : Nat) (hk : k < 1024) : w.cell? ⟨g, 6 + k, none⟩ = some (.int .u8 ((l.getD k 0).toNat : Int)) := by
  rw [d.blk.cell, show 6 + k = (4 + k) + 1 + 1 by omega, List.getElem?_cons_succ, List.getElem?_cons_succ, List.getElem?_append_right (by rw [itc_len]; omega), itc_len, show 4 + k - 4 = k by omega, bts_get l k (by rw [d.ll]; exact hk)]
theorem PD.frozen (d : PD w g h ps Q L l) (i : Nat) : w.frozen? ⟨g, i, none⟩ = false := d.blk.frozen i
theorem PD.keep (d : PD w g h ps Q L l) (hg : w'.heap[g]? = w.heap[g]?) (hh : w'.heap[h]? = w.heap[h]?) (hs : w.heap.size ≤ w'.heap.size) : PD w' g h ps Q L l := by
  obtain ⟨t, cs, hb, e, hp⟩ := d.par
  exact ⟨d.p4, d.ll, d.lb, d.qb, hg.trans d.blk, t, cs, hh.trans hb, e, hp.same hb hh hs⟩
theorem PD.below (d : PD w g h ps Q L l) (hb : Below w.heap.size w w') : PD w' g h ps Q L l := d.keep (hb.block g d.lt.1) (hb.block h d.lt.2) hb.size
theorem PD.drewN (d : PD w g h ps Q L l) (n : Nat) : PD (w.drewN n) g h ps Q L l := d.below (bdrewN (Below.refl _ _) n)
/-- Its own block turned. -/
theorem PD.turn (d : PD w g h ps Q L l) (hg : w.grownBy w' (some g)) (ll : l'.length = 1024) (lb : ∀ i, 0 ≤ L' i ∧ L' i ≤ 64) (hb : Blk w' g 67 (.slice (some ⟨h, 0, none⟩) ps.length ps.length :: .int .i64 Q :: (itc L' 4 ++ bts l'))) : PD w' g h ps Q L' l' := by
  obtain ⟨t, cs, hh, e, hp⟩ := d.par
  have hk := hg.block h hh.lt (fun e2 => e (by injection e2 with e2; exact e2.symm))
  exact ⟨d.p4, ll, lb, d.qb, hb, t, cs, hk.trans hh, e, hp.same hh hk hg.size⟩
theorem PD.set (d : PD w g h ps Q L l) (k : Nat) (hk : k < 4) (x : Int) (hx : 0 ≤ x ∧ x ≤ 64) : PD (w.setCell ⟨g, 2 + k, none⟩ (.int .i64 x)) g h ps Q (iF L k x) l := by
  refine d.turn (gone _) d.ll (fun i => by unfold iF; split; exact hx; exact d.lb i) ?_
  have h4 := d.blk.set (2 + k) (.int .i64 x)
  have e : (.slice (some ⟨h, 0, none⟩) ps.length ps.length :: .int .i64 Q :: (itc L 4 ++ bts l) : List Value).set (2 + k) (.int .i64 x) = .slice (some ⟨h, 0, none⟩) ps.length ps.length :: .int .i64 Q :: (itc (iF L k x) 4 ++ bts l) := by
    rw [show 2 + k = k + 1 + 1 by omega, List.set_cons_succ, List.set_cons_succ, List.set_append_left _ _ (by rw [itc_len]; exact hk), itc_set]
  rw [e] at h4
  exact h4
end
/-- As a thing. -/
def obPD1 (g h : Nat) (ps : List (Int × Int)) (Q : Int) (L : Nat → Int) (l : List UInt8) : Ob :=
  ⟨fun S w => PD w g h ps Q L l ∧ ∀ b, S b ↔ (b = g ∨ b = h), fun ⟨d, e⟩ hk hs => ⟨d.keep (hk g d.lt.1 ((e g).2 (.inl rfl))) (hk h d.lt.2 ((e h).2 (.inr rfl))) hs, e⟩, fun ⟨d, e⟩ hb => ((e _).1 hb).elim (fun e => e ▸ d.lt.1) (fun e => e ▸ d.lt.2)⟩
def obPD (g : Nat) (ps : List (Int × Int)) (Q : Int) (L : Nat → Int) (l : List UInt8) : Ob := obX fun h => obPD1 g h ps Q L l
section
variable {S : Nat → Prop} {W0 w w' : World} {os os' : List Ob} {i g : Nat} {ps : List (Int × Int)} {Q : Int} {L L' : Nat → Int} {l l' : List UInt8}
theorem Tk.pd (t : Tk S W0 os w) (hi : os[i]? = some (obPD g ps Q L l)) : ∃ h, PD w g h ps Q L l ∧ ∀ w' L' l', PD w' g h ps Q L' l' → w.grownBy w' (some g) → Tk S W0 (os.set i (obPD g ps Q L' l')) w' := by
  obtain ⟨S1, ⟨h, q⟩, _, k⟩ := t.call hi
  exact ⟨h, q.1, fun w' L' l' hp hg => k w' _ [] ⟨S1, obs_one.2 ⟨h, hp, q.2⟩, fun _ _ h => h, (Fo.refl _ _).grown hg (fun x hx => .inl ((q.2 x).2 (.inl (by injection hx with hx; exact hx.symm))))⟩⟩
end

section
variable {w : World} {g h : Nat} {ps : List (Int × Int)} {Q : Int} {L : Nat → Int} {l : List UInt8}
theorem dhas_any (p : Int) (d : PD w g h ps Q L l) :
    Calls Try.prog 32 #[.pointer (some ⟨g, 0, none⟩), .int .i64 p] w fun e w' => e = .returned (.bool (inP ps.length p)) ∧ w = w' := by
  obtain ⟨c0, _⟩ := d.heads
  clear d
  generalize ps.length = P at *
  have HB := Lib.hid (show inP P p = decide (0 ≤ p ∧ p < (P : Int)) from rfl)
  by_cases h0 : 0 ≤ p
  · by_cases h1 : p < (P : Int)
    · go_enter Try.func32, Try.ntmps32
      go_wp2
      go_ret
      exact ⟨by rw [HB.out, decide_eq_true (show 0 ≤ p ∧ p < (P : Int) from ⟨h0, h1⟩)]; rfl, rfl⟩
    · go_enter Try.func32, Try.ntmps32
      go_wp2
      go_ret
      exact ⟨by rw [HB.out, decide_eq_false (show ¬ (0 ≤ p ∧ p < (P : Int)) by omega)]; rfl, rfl⟩
  · go_enter Try.func32, Try.ntmps32
    go_wp2
    go_ret
    exact ⟨by rw [HB.out, decide_eq_false (show ¬ (0 ≤ p ∧ p < (P : Int)) by omega)]; rfl, rfl⟩

theorem dleft_any (p : Int) (d : PD w g h ps Q L l) :
    Calls Try.prog 22 #[.pointer (some ⟨g, 0, none⟩), .int .i64 p] w fun e w' => e = .returned (.int .i64 (dlX ps.length L p)) ∧ w = w' := by
  have HD := Lib.hid d
  have hP4 := d.p4
  cases hin : inP ps.length p with
  | true =>
    have HX := Lib.hid (show dlX ps.length L p = L p.toNat by simp [dlX, hin])
    have HB := Lib.hid hin
    obtain ⟨k, rfl, hk⟩ := (inP_iff _ _).1 hin
    rw [Int.toNat_natCast] at HX
    have c0 := d.at_ k (by omega)
    have hk4 : (k : Int) < 4 := by omega
    clear d hin
    go_enter Try.func22, Try.ntmps22
    go_wp2_with fail
    refine (dhas_any _ HD.out).mono ?_
    rintro e w' ⟨rfl, rfl⟩
    rw [HB.out]
    go_wp2_with fail
    go_ret
    exact ⟨by rw [HX.out]; rfl, rfl⟩
  | false =>
    have HX := Lib.hid (show dlX ps.length L p = 0 by simp [dlX, hin])
    have HB := Lib.hid hin
    clear d hin
    go_enter Try.func22, Try.ntmps22
    go_wp2_with fail
    refine (dhas_any _ HD.out).mono ?_
    rintro e w' ⟨rfl, rfl⟩
    rw [HB.out]
    go_wp2_with fail
    go_ret
    exact ⟨by rw [HX.out]; rfl, rfl⟩

theorem dopen_any (p : Int) (d : PD w g h ps Q L l) :
    Calls Try.prog 20 #[.pointer (some ⟨g, 0, none⟩), .int .i64 p] w fun e w' => e = .returned (.int .i64 (doC ps.length p)) ∧ PD w' g h ps Q (doF ps.length Q L p) l ∧ w.grownBy w' (some g) := by
  have HD := Lib.hid d
  have hP4 := d.p4
  cases hin : inP ps.length p with
  | true =>
    have HX := Lib.hid (show doC ps.length p = 0 ∧ doF ps.length Q L p = iF L p.toNat Q by simp [doC, doF, hin])
    have HB := Lib.hid hin
    obtain ⟨k, rfl, hk⟩ := (inP_iff _ _).1 hin
    rw [Int.toNat_natCast] at HX
    obtain ⟨_, c1⟩ := d.heads
    have f0 := d.frozen (2 + k)
    have c0 := d.at_ k (by omega)
    have hk4 : (k : Int) < 4 := by omega
    have hs := (d.drewN 1).set k (by omega) Q d.qb
    have HS := Lib.hid hs
    have HG := Lib.hid (show w.grownBy (w.drew.setCell ⟨g, 2 + k, none⟩ (.int .i64 Q)) (some g) from gset (gdrewN (grefl w _) 1) (.inl rfl) _)
    clear d hin hs
    go_enter Try.func20, Try.ntmps20
    go_wp2_with fail
    refine (dhas_any _ HD.out).mono ?_
    rintro e w' ⟨rfl, rfl⟩
    rw [HB.out]
    go_wp2_with fail
    go_still_tail 9, (by kernel_rfl)
    change wpList _ _ _ _ _ w.drew
    replace f0 : w.drew.frozen? ⟨g, 2 + k, none⟩ = false := f0
    replace c0 : w.drew.cell? ⟨g, 2 + k, none⟩ = some (.int .i64 (L k)) := c0
    go_wp2_with fail
    go_ret
    exact ⟨by rw [HX.out.1]; rfl, by rw [HX.out.2]; exact HS.out, HG.out⟩
  | false =>
    have HX := Lib.hid (show doC ps.length p = 1900 ∧ doF ps.length Q L p = L by simp [doC, doF, hin])
    have HB := Lib.hid hin
    clear d hin
    go_enter Try.func20, Try.ntmps20
    go_wp2_with fail
    refine (dhas_any _ HD.out).mono ?_
    rintro e w' ⟨rfl, rfl⟩
    rw [HB.out]
    go_wp2_with fail
    go_ret
    exact ⟨by rw [HX.out.1]; rfl, by rw [HX.out.2]; exact HD.out, grefl _ _⟩

theorem dspend_any (p n : Int) (d : PD w g h ps Q L l) :
    Calls Try.prog 18 #[.pointer (some ⟨g, 0, none⟩), .int .i64 p, .int .i64 n] w fun e w' => e = .returned (.int .i64 (dsC ps.length L p n)) ∧ PD w' g h ps Q (dsF ps.length L p n) l ∧ w.grownBy w' (some g) := by
  have HD := Lib.hid d
  have hP4 := d.p4
  cases hin : inP ps.length p with
  | true =>
    have HB := Lib.hid hin
    obtain ⟨k, rfl, hk⟩ := (inP_iff _ _).1 hin
    by_cases h0 : 0 ≤ n
    · have n0 : decide (n < 0) = false := by simp; omega
      have c0 := d.at_ k (by omega)
      have hk4 : (k : Int) < 4 := by omega
      obtain ⟨l0, l64⟩ := d.lb k
      by_cases h1 : n ≤ L k
      · have HX := Lib.hid (show dsC ps.length L k n = 0 ∧ dsF ps.length L k n = iF L k (L k - n) by simp [dsC, dsF, hin, h0, h1])
        have f0 := d.frozen (2 + k)
        have hs := (d.drewN 1).set k (by omega) (L k - n) (by omega)
        have HS := Lib.hid hs
        have HG := Lib.hid (show w.grownBy (w.drew.setCell ⟨g, 2 + k, none⟩ (.int .i64 (L k - n))) (some g) from gset (gdrewN (grefl w _) 1) (.inl rfl) _)
        have n1 : IntKind.i64.wrap (L k - n) = L k - n := by rw [IntKind.wrap_i64]; omega
        clear d hin hs
        go_enter Try.func18, Try.ntmps18
        go_wp2_with fail
        refine (dhas_any _ HD.out).mono ?_
        rintro e w' ⟨rfl, rfl⟩
        rw [HB.out]
        go_wp2_with fail
        go_still_tail 11, (by kernel_rfl)
        change wpList _ _ _ _ _ w.drew
        replace f0 : w.drew.frozen? ⟨g, 2 + k, none⟩ = false := f0
        replace c0 : w.drew.cell? ⟨g, 2 + k, none⟩ = some (.int .i64 (L k)) := c0
        go_wp2_with fail
        go_ret
        exact ⟨by rw [HX.out.1]; rfl, by rw [HX.out.2]; exact HS.out, HG.out⟩
      · have HX := Lib.hid (show dsC ps.length L k n = 1901 ∧ dsF ps.length L k n = L by simp [dsC, dsF, hin, h0, h1])
        have h2 : L k < n := by omega
        clear d hin h1
        go_enter Try.func18, Try.ntmps18
        go_wp2_with fail
        refine (dhas_any _ HD.out).mono ?_
        rintro e w' ⟨rfl, rfl⟩
        rw [HB.out]
        go_wp2_with fail
        go_ret
        exact ⟨by rw [HX.out.1]; rfl, by rw [HX.out.2]; exact HD.out, grefl _ _⟩
    · have HX := Lib.hid (show dsC ps.length L k n = 1900 ∧ dsF ps.length L k n = L by simp [dsC, dsF, h0])
      have h2 : n < 0 := by omega
      clear d hin h0
      go_enter Try.func18, Try.ntmps18
      go_wp2_with fail
      refine (dhas_any _ HD.out).mono ?_
      rintro e w' ⟨rfl, rfl⟩
      rw [HB.out]
      go_wp2_with fail
      go_ret
      exact ⟨by rw [HX.out.1]; rfl, by rw [HX.out.2]; exact HD.out, grefl _ _⟩
  | false =>
    have HX := Lib.hid (show dsC ps.length L p n = 1900 ∧ dsF ps.length L p n = L by simp [dsC, dsF, hin])
    have HB := Lib.hid hin
    clear d hin
    go_enter Try.func18, Try.ntmps18
    go_wp2_with fail
    refine (dhas_any _ HD.out).mono ?_
    rintro e w' ⟨rfl, rfl⟩
    rw [HB.out]
    go_wp2_with fail
    go_ret
    exact ⟨by rw [HX.out.1]; rfl, by rw [HX.out.2]; exact HD.out, grefl _ _⟩
end

end Go.Proofs.Ytjccdimmfhkipaa
