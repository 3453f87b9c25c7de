/-
  Layer 19's law Disks: it answers true for every input.
-/
import Derived.Test.YtjccdimmfhkipaaDkAwake
import Derived.Test.YtjccdimmfhkipaaDr3
import Derived.Test.YtjccdimmfhkipaaEx4
import Derived.Test.YtjccdimmfhkipaaExArgs
import Derived.Deep.CutBlock
import Derived.Deep.DeepCutAuto
namespace Go.Proofs.Ytjccdimmfhkipaa
open Go.RowKit Go.ChangeShapes Go.WideShapes Go.Deep
set_option linter.unusedVariables false
set_option linter.unusedSimpArgs false
set_option maxRecDepth 100000

/-- The k-th act of a row. -/
def ActD (xs : List Value) (i : Nat) : Prop := ∃ (k p a m : Int) (s : ByteArray), xs[i * 5]? = some (.int .i64 k) ∧ xs[i * 5 + 1]? = some (.int .i64 p) ∧ xs[i * 5 + 2]? = some (.int .i64 a) ∧ xs[i * 5 + 3]? = some (.int .i64 m) ∧ xs[i * 5 + 4]? = some (.string s) ∧ s.size ≤ maxLen
theorem actsd_of {H : Type} {enc : TypeId × Value → H} {W : World} {n : Nat} {xs : List Value}
    (hr : ∀ i, i < n → ∃ (m : Nat) (y : DataW H × List MemPlace), DataW.trod enc Try.prog W 0 (fun _ => true) true m 41 ((xs.drop (i * 5)).take 5) = some y) : ∀ i, i < n → ActD xs i := by
  intro i hi
  obtain ⟨m, y, hy⟩ := hr i hi
  obtain ⟨k, hk, _⟩ := fld_int (P := Try.prog) Try.underlying41 hy 0 0 _ rfl rfl (by kernel_rfl) Try.underlying3
  obtain ⟨p, hp, _⟩ := fld_int (P := Try.prog) Try.underlying41 hy 1 1 _ rfl rfl (by kernel_rfl) Try.underlying3
  obtain ⟨a, ha, _⟩ := fld_int (P := Try.prog) Try.underlying41 hy 2 2 _ rfl rfl (by kernel_rfl) Try.underlying3
  obtain ⟨x, hx, _⟩ := fld_int (P := Try.prog) Try.underlying41 hy 3 3 _ rfl rfl (by kernel_rfl) Try.underlying3
  obtain ⟨s, hs, hl⟩ := fld_str (P := Try.prog) Try.underlying41 hy 4 4 _ rfl rfl (by kernel_rfl) Try.underlying9
  rw [elem_at _ _ _ _ (by omega)] at hk hp ha hx hs
  exact ⟨k, p, a, x, s, hk, hp, ha, hx, hs, hl⟩

section
variable {S : Nat → Prop} {W0 : World} {os os' : List Ob} {i r : Nat} {ps : List (Int × Int)} {N : Nat} {Q : Int} {L : Nat → Int} {l : List UInt8}
theorem tk_rleft (p : Int) (w : World) (t : Tk S W0 os w) (hi : os[i]? = some (obRD r ps N Q L l)) :
    Calls Try.prog 23 #[.pointer (some ⟨r, 0, none⟩), .int .i64 p] w fun e w' => e = .returned (.int .i64 (dlX ps.length L p)) ∧ w = w' := by
  obtain ⟨a, ca, hb, b, cb, d, _⟩ := t.rd hi
  exact rleft_any p d
theorem tk_ropen (p : Int) (w : World) (t : Tk S W0 os w) (hi : os[i]? = some (obRD r ps N Q L l)) :
    Calls Try.prog 21 #[.pointer (some ⟨r, 0, none⟩), .int .i64 p] w fun e w' => e = .returned (.int .i64 (doC ps.length p)) ∧ Tk S W0 (os.set i (obRD r ps N Q (doF ps.length Q L p) l)) w' := by
  obtain ⟨a, ca, hb, b, cb, d, k⟩ := t.rd hi
  exact (ropen_any p d).mono fun e w' ⟨h1, h2, h3⟩ => ⟨h1, k w' _ _ h2 (.inl h3)⟩
theorem tk_rspend (p n : Int) (w : World) (t : Tk S W0 os w) (hi : os[i]? = some (obRD r ps N Q L l)) :
    Calls Try.prog 19 #[.pointer (some ⟨r, 0, none⟩), .int .i64 p, .int .i64 n] w fun e w' => e = .returned (.int .i64 (dsC ps.length L p n)) ∧ Tk S W0 (os.set i (obRD r ps N Q (dsF ps.length L p n) l)) w' := by
  obtain ⟨a, ca, hb, b, cb, d, k⟩ := t.rd hi
  exact (rspend_any p n d).mono fun e w' ⟨h1, h2, h3⟩ => ⟨h1, k w' _ _ h2 (.inl h3)⟩
theorem tk_rread (p y n : Int) (w : World) (t : Tk S W0 os w) (hi : os[i]? = some (obRD r ps N Q L l)) :
    Calls Try.prog 17 #[.pointer (some ⟨r, 0, none⟩), .int .i64 p, .int .i64 y, .int .i64 n] w fun e w' => e = .returned (.tuple #[.string (str (drT ps l p y n)), .int .i64 (toC ps p y n).2]) ∧ Tk S W0 os w' := by
  obtain ⟨a, ca, hb, b, cb, d, k⟩ := t.rd hi
  exact (rdread_any p y n d).mono fun e w' ⟨h1, h2⟩ => ⟨h1, t.next h2⟩
theorem tk_rwrite (p y : Int) (s : ByteArray) (w : World) (t : Tk S W0 os w) (hi : os[i]? = some (obRD r ps N Q L l)) (hs : s.size ≤ maxLen) :
    Calls Try.prog 15 #[.pointer (some ⟨r, 0, none⟩), .int .i64 p, .int .i64 y, .string s] w fun e w' => e = .returned (.int .i64 (dwC ps p y s.data.toList)) ∧ Tk S W0 (os.set i (obRD r ps N Q L (dwL ps l p y s.data.toList))) w' := by
  obtain ⟨a, ca, hb, b, cb, d, k⟩ := t.rd hi
  exact (rdwrite_any p y s d hs).mono fun e w' ⟨h1, h2, h3⟩ => ⟨h1, k w' _ _ h2 (.inr h3)⟩
theorem tk_rnew (v : Value) (N : Nat) (q : Int) (w : World) (t : Tk S W0 os w) (h : PtS w v ps) (hE : extB ps N = true) (q0 : 0 ≤ q) (q64 : q ≤ 64) :
    Calls Try.prog 10 #[v, .int .i64 N, .int .i64 q] w fun e w' => ∃ r, e = .returned (.tuple #[.pointer (some ⟨r, 0, none⟩), .int .i64 0]) ∧ Tk S W0 (obRD r ps N q (qF q ps.length) (zeros 1024) :: os) w' :=
  (rdnew_yes v ps N q w h hE q0 q64).mono fun e w' ⟨g, h1, h2⟩ => ⟨g, h1, t.add (ps := [_]) h2⟩
end

/-- The copied shares' first sectors are numbers. -/
def FiI (xs : List Value) (n : Nat) : Prop := ∀ i, i < n → ∃ q : Int, xs[i * 5 + 3]? = some (.int .i64 q)
theorem FiI.set {xs : List Value} {n : Nat} (h : FiI xs n) (k : Nat) (q : Int) (hl : xs.length = n * 5) : FiI (xs.set (k * 5 + 3) (.int .i64 q)) n := by
  intro i hi
  rw [List.getElem?_set]
  split
  · rw [if_pos (by omega)]; exact ⟨_, rfl⟩
  · exact h i hi
theorem FiI.of (L : List (Pa × Value)) : FiI (pcl L) L.length := fun i hi => ⟨_, (pcl_get L i hi).2.2.2.1⟩

/-- The disks, the program's and the document's, say the same; and what the law's own copy holds. -/
def BoD (w : World) (g r : Nat) (ps : List (Int × Int)) (N : Nat) (Q : Int) (wx : World) : Prop := ∃ L l, Tk nos w [obPD g ps Q L l, obRD r ps N Q L l] wx

set_option maxHeartbeats 4000000 in
theorem disks_no (u : Value) (s q : Int) (v : Value) (l : List Pa) (w : World) (hs : PaS w u l) (hz : PaZ l) (hno : ¬ (extB (l.map Pa.fc) s = true ∧ 0 ≤ q ∧ q ≤ 64)) :
    Calls Try.prog 3 #[u, .int .i64 s, .int .i64 q, v] w fun e w' => e = .returned (.bool true) ∧ Below w.heap.size w w' := by
  have HS := Lib.hid hs; have HZ := Lib.hid hz; have HNO := Lib.hid hno
  clear hs hz hno
  go_enter Try.func3, Try.ntmps3
  go_wp2_with fail
  refine (copy_parts u l _ HS.out HZ.out).mono ?_
  rintro e w1 ⟨x, rfl, ho, hb⟩
  have HX := Lib.hid ho.pas; have HB := Lib.hid hb
  clear ho hb
  go_wp2_with fail
  refine (dnew_no _ _ _ _ _ (HX.out.pts HZ.out) HNO.out).mono ?_
  rintro e w2 ⟨rfl, b⟩
  have HB := Lib.hid (Below.down HB.out b HB.out.size)
  clear b
  go_wp2_with fail
  refine (rdnew_no _ _ _ _ _ ((HS.out.below HB.out).pts HZ.out) HNO.out).mono ?_
  rintro e w3 ⟨rfl, b⟩
  have HB := Lib.hid (Below.down HB.out b HB.out.size)
  clear b
  go_wp2_with (go_at_call 11; refine (num_any _ _).mono ?_; rintro e w' ⟨rfl, rfl⟩)
  refine (dkawake_any _).mono ?_
  rintro e w4 ⟨rfl, b⟩
  have HB := Lib.hid (Below.down HB.out b HB.out.size)
  clear b
  go_wp2_with fail
  go_ret
  exact ⟨rfl, HB.out⟩

end Go.Proofs.Ytjccdimmfhkipaa
