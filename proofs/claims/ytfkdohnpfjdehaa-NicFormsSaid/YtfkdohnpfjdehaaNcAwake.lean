/-
  Layer 20: a Switch's state as one; awake.
-/
import Derived.Test.YtfkdohnpfjdehaaNc4
import Derived.Test.YtfkdohnpfjdehaaNcM
import Derived.Test.YtfkdohnpfjdehaaNum
namespace Go.Proofs.Ytfkdohnpfjdehaa
open Go.RowKit
set_option linter.unusedVariables false
set_option linter.unusedSimpArgs false
set_option maxRecDepth 100000

/-- A Switch's queues and counts. -/
abbrev Qs := (Nat → List Ms) × (Nat → Int)
def q0 : Qs := (noQ, noI)
/-- .. behind a Send; behind a Receive. -/
def sd (ls : List (Int × Int)) (q : Qs) (a b : Int) (s : List UInt8) : Qs := (nsQ ls q.1 a b s, nsD ls q.1 q.2 a b s.length)
def rc (ls : List (Int × Int)) (q : Qs) (p : Int) : Qs := (nrQ ls q.1 p, q.2)
def ob2 (g : Nat) (ls : List (Int × Int)) (q : Qs) : Ob := obPS g ls q.1 q.2
section
variable {S : Nat → Prop} {W0 : World} {os os' : List Ob} {i g : Nat} {ls : List (Int × Int)} {q : Qs}
theorem t2_send (a b : Int) (s : ByteArray) (w : World) (t : Tk S W0 os w) (hi : os[i]? = some (ob2 g ls q)) (hs : s.size ≤ maxLen) (C : Int) (hC : nsC ls a b s.size = C) (ho : os.set i (ob2 g ls (sd ls q a b s.data.toList)) = os') :
    Calls Try.prog 15 #[.pointer (some ⟨g, 0, none⟩), .int .i64 a, .int .i64 b, .string s] w fun e w' => e = .returned (.int .i64 C) ∧ Tk S W0 os' w' :=
  tk_nsend a b s w t hi hs C hC (by rw [← ho]; unfold sd ob2; rw [list_len])
theorem t2_recv (p : Int) (w : World) (t : Tk S W0 os w) (hi : os[i]? = some (ob2 g ls q)) (m : Ms) (C : Int) (hm : nrM ls q.1 p = m) (hC : nrC ls q.1 p = C) (ho : os.set i (ob2 g ls (rc ls q p)) = os') :
    Calls Try.prog 17 #[.pointer (some ⟨g, 0, none⟩), .int .i64 p] w fun e w' => e = .returned (.tuple #[.agg #[.int .i64 m.f, .string (str m.s)], .int .i64 C]) ∧ Tk S W0 os' w' :=
  tk_nrecv p w t hi m C hm hC (by rw [← ho]; rfl)
theorem t2_queue (p : Int) (w : World) (t : Tk S W0 os w) (hi : os[i]? = some (ob2 g ls q)) (x : List Ms) (hq : nqX ls q.1 p = x) :
    Calls Try.prog 19 #[.pointer (some ⟨g, 0, none⟩), .int .i64 p] w fun e w' => ∃ v, e = .returned v ∧ Tk S W0 (obR 41 2 v x.length (mss x) :: os) w' :=
  tk_nqueue p w t hi x hq
/-- Of a queue just how long it is. -/
theorem t2_qlen (p : Int) (w : World) (t : Tk S W0 os w) (hi : os[i]? = some (ob2 g ls q)) (n : Nat) (hq : (nqX ls q.1 p).length = n) :
    Calls Try.prog 19 #[.pointer (some ⟨g, 0, none⟩), .int .i64 p] w fun e w' => ∃ A c, e = .returned (.slice A n c) ∧ Tk S W0 os w' := by
  refine (t2_queue p w t hi _ rfl).mono ?_
  rintro e w' ⟨v, rfl, h⟩
  obtain ⟨A, c, rfl, _⟩ := h.sl (i := 0) rfl
  exact ⟨A, c, by rw [hq], h.tail⟩
theorem t2_drop (p : Int) (w : World) (t : Tk S W0 os w) (hi : os[i]? = some (ob2 g ls q)) (X : Int) (hX : ndX ls q.2 p = X) :
    Calls Try.prog 22 #[.pointer (some ⟨g, 0, none⟩), .int .i64 p] w fun e w' => e = .returned (.int .i64 X) ∧ w = w' :=
  tk_ndrop p w t hi X hX
theorem t2_new (v : Value) (n : Nat) (ls : List (Int × Int)) (w : World) (t : Tk S W0 os w) (h : Sl w v n 2 (ints (lbs ls))) (hl : ls.length = n) (hn : n ≤ maxLen) (hB : newL ls = true) :
    Calls Try.prog 9 #[v] w fun e w' => ∃ g, e = .returned (.tuple #[.pointer (some ⟨g, 0, none⟩), .int .i64 0]) ∧ Tk S W0 (ob2 g ls q0 :: os) w' :=
  tk_nnew v n ls w t h hl hn hB
end
/-- Labels that a law writes out. -/
theorem lbs_lit (w : World) (ls : List (Int × Int)) (t : TypeId) : Sl (w.alloc (.cells (ints (lbs ls)).toArray t)) (.slice (some ⟨w.heap.size, 0, none⟩) ls.length ls.length) ls.length 2 (ints (lbs ls)) :=
  Sl.lit w (ints (lbs ls)) ls.length 2 t (by rw [ints_len, lbs_len])

def lsA : List (Int × Int) := [(0, 0), (2, 0)]
def qA1 : Qs := sd lsA q0 0 1 [104, 105]
def qA2 : Qs := sd lsA qA1 1 0 [110, 111]
def qA3 : Qs := sd lsA qA2 0 2 [120]
def qY : Nat → Qs
  | 0 => qA3
  | k + 1 => sd lsA (qY k) 1 1 [121]
def qA4 : Qs := rc lsA (qY 9) 1
def qA5 : Qs := rc lsA qA4 0

set_option maxHeartbeats 1000000 in
theorem nawake_any (w : World) : Calls Try.prog 12 #[] w fun e w' => e = .returned (.bool true) ∧ Below w.heap.size w w' := by
  have HS := Lib.hid (lbs_lit w lsA 54)
  have HT := Lib.hid ((Tk.empty w).next ((Below.refl _ w).alloc (Nat.le_refl _) (.cells (ints (lbs lsA)).toArray 54)))
  go_enter Try.func12, Try.ntmps12
  go_wp2_with fail
  refine (t2_new _ 2 lsA _ HT.out HS.out rfl (by decide) (by kernel_rfl)).mono ?_
  rintro e w1 ⟨g, rfl, t⟩
  have HT := Lib.hid t
  have HS := Lib.hid (lbs_lit w1 [(4, 0)] 54)
  have HB := Lib.hid ((Below.refl _ w1).alloc (Nat.le_refl _) (.cells (ints (lbs [(4, 0)])).toArray 54))
  clear t
  go_wp2_with fail
  refine (nnew_no _ 1 [(4, 0)] _ HS.out rfl (by decide) (by kernel_rfl)).mono ?_
  rintro e w2 ⟨rfl, b2⟩
  have HT := Lib.hid (HT.out.next (Below.down HB.out b2 HB.out.size))
  clear b2 HB
  go_wp2_with fail
  refine (num_any _ _).mono ?_; rintro e w' ⟨rfl, rfl⟩
  go_wp2_with fail
  refine (t2_send 0 1 _ _ HT.out (i := 0) rfl (by decide) 0 (by kernel_rfl) (os' := [ob2 g lsA qA1]) rfl).mono ?_
  rintro e w3 ⟨rfl, t⟩
  have HT := Lib.hid t; clear t
  go_wp2_with fail
  refine (t2_send 1 0 _ _ HT.out (i := 0) rfl (by decide) 2001 (by kernel_rfl) (os' := [ob2 g lsA qA2]) rfl).mono ?_
  rintro e w4 ⟨rfl, t⟩
  have HT := Lib.hid t; clear t
  go_wp2_with fail
  refine (t2_send 0 2 _ _ HT.out (i := 0) rfl (by decide) 2000 (by kernel_rfl) (os' := [ob2 g lsA qA3]) rfl).mono ?_
  rintro e w5 ⟨rfl, t⟩
  have HT := Lib.hid t; clear t
  go_wp2_with fail
  go_loopw [8] (fun i wr => ∃ k : Nat, k ≤ 9 ∧ i = .int .i64 k ∧ Hid (Tk nos w [ob2 g lsA (qY k)] wr)) (fun i _ => 9 - (intOf i).toNat)
  case atStart => exact ⟨0, by omega, rfl, HT⟩
  case round =>
    obtain ⟨k, hk, rfl, H⟩ := hrel
    by_cases hlt : k < 9
    · go_wp2_with fail
      refine (t2_send 1 1 _ _ H.out (i := 0) rfl (by decide) 0 (by kernel_rfl) (os' := [ob2 g lsA (qY (k + 1))]) rfl).mono ?_
      rintro e w6 ⟨rfl, t⟩
      have HT := Lib.hid t; clear t
      go_wp2_with fail
      go_roundw
      case rel => exact ⟨k + 1, by omega, by go_num, HT⟩
      case measure => simp [intOf]; omega
    · obtain rfl : k = 9 := by omega
      go_wp2_with fail
      refine (t2_recv 1 _ H.out (i := 0) rfl ⟨0, [104, 105]⟩ 0 (by kernel_rfl) (by kernel_rfl) (os' := [ob2 g lsA qA4]) rfl).mono ?_
      rintro e w6 ⟨rfl, t⟩
      have HT := Lib.hid (t.alloc 41 [.int .i64 0, .string ⟨#[104, 105]⟩])
      clear t
      rw [show str [104, 105] = ⟨#[104, 105]⟩ from rfl]
      go_wp2_with fail
      generalize w6.heap.size = b1 at *
      refine (t2_recv 0 _ HT.out (i := 1) rfl ⟨0, []⟩ 2002 (by kernel_rfl) (by kernel_rfl) (os' := [obB b1 41 [.int .i64 0, .string ⟨#[104, 105]⟩], ob2 g lsA qA5]) rfl).mono ?_
      rintro e w7 ⟨rfl, t⟩
      have HT := Lib.hid (t.alloc 41 [.int .i64 0, .string ⟨#[]⟩])
      clear t
      rw [show str [] = ⟨#[]⟩ from rfl]
      go_wp2_with fail
      refine (num_any _ _).mono ?_; rintro e w' ⟨rfl, rfl⟩
      go_wp2_with fail
      refine (num_any _ _).mono ?_; rintro e w' ⟨rfl, rfl⟩
      go_wp2_with fail
      refine (num_any _ _).mono ?_; rintro e w' ⟨rfl, rfl⟩
      go_wp2_with fail
      refine (num_any _ _).mono ?_; rintro e w' ⟨rfl, rfl⟩
      have c0 := (HT.out.blk (i := 1) rfl).cell 0
      have c1 := (HT.out.blk (i := 1) rfl).cell 1
      simp only [List.getElem?_cons_zero, List.getElem?_cons_succ] at c0 c1
      go_wp2_with fail
      refine (num_any _ _).mono ?_; rintro e w' ⟨rfl, rfl⟩
      clear c0 c1
      go_wp2_with fail
      refine (num_any _ _).mono ?_; rintro e w' ⟨rfl, rfl⟩
      go_wp2_with fail
      refine (t2_drop 1 _ HT.out (i := 2) rfl 2 (by kernel_rfl)).mono ?_
      rintro e w' ⟨rfl, rfl⟩
      go_wp2_with fail
      refine (t2_qlen 1 _ HT.out (i := 2) rfl 7 (by kernel_rfl)).mono ?_
      rintro e w8 ⟨A, c, rfl, t⟩
      have HT := Lib.hid t
      clear t
      go_wp2_with fail
      go_ret
      exact ⟨rfl, HT.out.below⟩

end Go.Proofs.Ytfkdohnpfjdehaa
