/-
  The contract of layer 17's awake: it answers true, whatever the world.
-/
import Derived.Test.YtcjmgjdejljjkaaRi6
import Derived.Test.YtcjmgjdejljjkaaRi8
namespace Go.Proofs.Ytcjmgjdejljjkaa
open Go.RowKit
set_option linter.unusedVariables false
set_option linter.unusedSimpArgs false
set_option maxRecDepth 100000

theorem chain_is (s : ByteArray) (h : Int) (P : Int × List Ds) (w : World) (hP : riP s.data.toList h = P) :
    Calls Try.prog 8 #[.string s, .int .i64 h] w (ChainOf P w) := by
  subst hP; exact chain_any s h w
theorem ringed_is (v : Value) (n : Nat) (l : List Ds) (S : ByteArray) (w : World) (hs : Sl w v n 5 (ints (dss l))) (hll : l.length = n) (hn : n ≤ maxLen) (hS : str (rngL l) = S) :
    Calls Try.prog 20 #[v] w fun e w' => e = .returned (.string S) ∧ Below w.heap.size w w' := by
  subst hS; exact ringed_any v n l w hs hll hn

theorem Sl.lit2 (w : World) (o : Obj) (cs : List Value) (n size : Nat) (t : TypeId) (h : cs.length = n * size) : Sl ((w.alloc o).alloc (.cells cs.toArray t)) (.slice (some ⟨w.heap.size + 1, 0, none⟩) n n) n size cs := by
  have := Sl.lit (w.alloc o) cs n size t h
  rw [show (w.alloc o).heap.size = w.heap.size + 1 by simp] at this
  exact this
theorem Sl.alloc {w : World} {v : Value} {n size : Nat} {xs : List Value} (h : Sl w v n size xs) (o : Obj) : Sl (w.alloc o) v n size xs := h.below ((Below.refl _ _).alloc (Nat.le_refl _) _)
theorem Sl.nil (w : World) (size : Nat) : Sl w (.slice none 0 0) 0 size [] := ⟨none, 0, rfl, Nat.le_refl _, by simp, fun h => absurd h (by omega)⟩

/-- The law's four descriptors. -/
def awA : Ds := ⟨1, 3, 0, 60, 1⟩
def awB : Ds := ⟨0, 255, 0, 64, 1⟩
def awL : List Ds := [⟨0, 0, 0, 0, 0⟩, awA, ⟨0, 2, 0, 0, 0⟩, awB]

/-- What stands between the law's calls: its two descriptors, the chain. -/
structure Aw (w0 : World) (ga gb : Nat) (v : Value) (w : World) : Prop where
  a : Blk w ga 42 [.int .i64 1, .int .i64 3, .int .i64 0, .int .i64 60, .int .i64 1]
  b : Blk w gb 42 [.int .i64 0, .int .i64 255, .int .i64 0, .int .i64 64, .int .i64 1]
  s : Sl w v 2 5 (ints (dss [awA, awB]))
  bel : Below w0.heap.size w0 w
theorem Aw.next {w0 w w' : World} {ga gb : Nat} {v : Value} (h : Aw w0 ga gb v w) (hb : Below w.heap.size w w') : Aw w0 ga gb v w' :=
  ⟨h.a.below hb h.a.lt, h.b.below hb h.b.lt, h.s.below hb, Below.down h.bel hb h.bel.size⟩
theorem Aw.alloc {w0 w : World} {ga gb : Nat} {v : Value} (h : Aw w0 ga gb v w) (o : Obj) : Aw w0 ga gb v (w.alloc o) := h.next ((Below.refl _ _).alloc (Nat.le_refl _) _)

set_option maxHeartbeats 4000000 in
theorem riawake_any (w : World) :
    Calls Try.prog 19 #[] w fun e w' => e = .returned (.bool true) ∧ Below w.heap.size w w' := by
  have ta := (Blk.new w 42 [.int .i64 1, .int .i64 3, .int .i64 0, .int .i64 60, .int .i64 1]).alloc (.cells #[.int .i64 0, .int .i64 255, .int .i64 0, .int .i64 64, .int .i64 1] 42)
  have tb := Blk.new (w.alloc (.cells #[.int .i64 1, .int .i64 3, .int .i64 0, .int .i64 60, .int .i64 1] 42)) 42 [.int .i64 0, .int .i64 255, .int .i64 0, .int .i64 64, .int .i64 1]
  have z0 : Below w.heap.size w ((w.alloc (.cells #[.int .i64 1, .int .i64 3, .int .i64 0, .int .i64 60, .int .i64 1] 42)).alloc (.cells #[.int .i64 0, .int .i64 255, .int .i64 0, .int .i64 64, .int .i64 1] 42)) := ((Below.refl _ _).alloc (Nat.le_refl _) _).alloc (by simp) _
  go_enter Try.func19, Try.ntmps19
  go_wp2_with fail
  have hsz : (w.alloc (.cells #[.int .i64 1, .int .i64 3, .int .i64 0, .int .i64 60, .int .i64 1] 42)).heap.size = w.heap.size + 1 := by simp
  rw [hsz] at tb
  have hsz2 : ((w.alloc (.cells #[.int .i64 1, .int .i64 3, .int .i64 0, .int .i64 60, .int .i64 1] 42)).alloc (.cells #[.int .i64 0, .int .i64 255, .int .i64 0, .int .i64 64, .int .i64 1] 42)).heap.size = w.heap.size + 1 + 1 := by simp
  rw [← hsz2]
  generalize (w.alloc (.cells #[.int .i64 1, .int .i64 3, .int .i64 0, .int .i64 60, .int .i64 1] 42)).alloc (.cells #[.int .i64 0, .int .i64 255, .int .i64 0, .int .i64 64, .int .i64 1] 42) = w0 at *
  generalize w.heap.size + 1 = gb at *
  obtain ⟨ga, hga⟩ : ∃ ga, w.heap.size = ga := ⟨_, rfl⟩
  rw [hga] at ta
  simp only [hga]
  have HGA := Lib.hid hga
  clear hga hsz hsz2
  obtain ⟨S, hS⟩ : ∃ S, str (rngL awL) = S := ⟨_, rfl⟩
  have H1 : Hid (riP S.data.toList 1 = (0, [awA, awB])) := Lib.hid (by rw [← hS, str_list]; kernel_rfl)
  have H8 : Hid (riP S.data.toList 8 = (1701, [])) := Lib.hid (by rw [← hS, str_list]; kernel_rfl)
  have H2 : Hid (riP S.data.toList 2 = (1702, [])) := Lib.hid (by rw [← hS, str_list]; kernel_rfl)
  refine (ringed_is _ 4 awL S _ (Sl.lit w0 (ints (dss awL)) 4 5 42 rfl) rfl (by decide) hS).mono ?_
  clear hS
  rintro e w1 ⟨rfl, b1⟩
  have ta := (ta.alloc _).below b1 (ta.alloc _).lt
  have tb := (tb.alloc _).below b1 (tb.alloc _).lt
  have z1 := Below.down (z0.alloc z0.size _) b1 (z0.alloc z0.size _).size
  clear b1 z0
  go_wp2_with fail
  refine (chain_is S 1 _ _ H1.out).mono ?_
  rintro e w2 ⟨v, rfl, ho, b2⟩
  have h2 : Aw w ga gb v w2 := ⟨ta.below b2 ta.lt, tb.below b2 tb.lt, Sl.own ho, Below.down z1 b2 z1.size⟩
  have hv : ∃ A c, v = .slice A 2 c := by obtain ⟨A, c, e, _⟩ := Sl.own ho; exact ⟨A, c, e⟩
  obtain ⟨A, c, rfl⟩ := hv
  clear ta tb z1 b2 ho
  go_wp2_with fail
  refine (chain_is S 8 _ _ H8.out).mono ?_
  rintro e w3 ⟨v8, rfl, ho8, b3⟩
  have h2 := h2.next b3
  clear b3 ho8
  go_wp2_with fail
  refine (chain_is S 2 _ _ H2.out).mono ?_
  rintro e w3 ⟨v2, rfl, ho2, b3⟩
  have h2 := h2.next b3
  clear b3 ho2
  go_wp2_with fail
  refine (chain_is ⟨#[120]⟩ 1 _ _ (show riP _ _ = (1700, []) from by kernel_rfl)).mono ?_
  rintro e w3 ⟨vx, rfl, hox, b3⟩
  have h2 := h2.next b3
  clear b3 hox
  have HA := Lib.hid h2
  clear h2
  go_wp2_with fail
  refine (check_any _ _ _ 2 2 1 [awA, awB] [0, 1] [1] _ ((HA.out.s.alloc _).alloc _) rfl (by decide) ((Sl.lit w3 (ints [0, 1]) 2 1 3 rfl).alloc _) rfl (by decide) (Sl.lit2 w3 _ (ints [1]) 1 1 3 rfl) rfl (by decide) 0 (by kernel_rfl)).mono ?_
  rintro e w4 ⟨rfl, b4⟩
  have HA := Lib.hid (((HA.out.alloc _).alloc _).next b4)
  clear b4
  go_wp2_with fail
  refine (check_any _ _ _ 2 1 1 [awA, awB] [0] [1] _ ((HA.out.s.alloc _).alloc _) rfl (by decide) ((Sl.lit w4 (ints [0]) 1 1 3 rfl).alloc _) rfl (by decide) (Sl.lit2 w4 _ (ints [1]) 1 1 3 rfl) rfl (by decide) 1703 (by kernel_rfl)).mono ?_
  rintro e w5 ⟨rfl, b5⟩
  have HA := Lib.hid (((HA.out.alloc _).alloc _).next b5)
  clear b5
  go_wp2_with fail
  refine (check_any _ _ _ 2 2 0 [awA, awB] [0, 1] [] _ (HA.out.s.alloc _) rfl (by decide) (Sl.lit w5 (ints [0, 1]) 2 1 3 rfl) rfl (by decide) (Sl.nil _ 1) rfl (by decide) 1703 (by kernel_rfl)).mono ?_
  rintro e w6 ⟨rfl, b6⟩
  have HA := Lib.hid ((HA.out.alloc _).next b6)
  clear b6
  go_wp2_with fail
  refine (check_any _ _ _ 1 0 2 [⟨0, 0, 0, 0, 5⟩] [] [0, 1] _ ((Sl.lit w6 (ints (dss [⟨0, 0, 0, 0, 5⟩])) 1 5 42 rfl).alloc _) rfl (by decide) (Sl.nil _ 1) rfl (by decide) (Sl.lit2 w6 _ (ints [0, 1]) 2 1 3 rfl) rfl (by decide) 1700 (by kernel_rfl)).mono ?_
  rintro e w7 ⟨rfl, b7⟩
  have h7 := ((HA.out.alloc _).alloc _).next b7
  clear b7
  obtain ⟨a0, a1, a2, a3, a4⟩ := five_at h7.a
  obtain ⟨c0, c1, c2, c3, c4⟩ := five_at h7.b
  have HA := Lib.hid h7
  clear h7
  go_wp2_with fail
  refine (same_descs _ _ 2 [awA, awB] _ (HA.out.s.alloc _) (Sl.lit w7 (ints (dss [awA, awB])) 2 5 42 rfl) rfl (by decide)).mono ?_
  rintro e w8 ⟨rfl, k, rfl⟩
  have HZ := Lib.hid (bdrewN (HA.out.bel.alloc HA.out.bel.size (.cells (ints (dss [awA, awB])).toArray 42)) k)
  generalize hW : World.drewN (w7.alloc (.cells (ints (dss [awA, awB])).toArray 42)) k = w8 at HZ
  clear hW a0 a1 a2 a3 a4 c0 c1 c2 c3 c4
  go_wp2_with fail
  refine (num_any _ _).mono ?_; rintro e w' ⟨rfl, rfl⟩
  go_wp2_with fail
  refine (num_any _ _).mono ?_; rintro e w' ⟨rfl, rfl⟩
  go_wp2_with fail
  refine (num_any _ _).mono ?_; rintro e w' ⟨rfl, rfl⟩
  go_wp2_with fail
  refine (num_any _ _).mono ?_; rintro e w' ⟨rfl, rfl⟩
  go_wp2_with fail
  refine (num_any _ _).mono ?_; rintro e w' ⟨rfl, rfl⟩
  go_wp2_with fail
  refine (num_any _ _).mono ?_; rintro e w' ⟨rfl, rfl⟩
  go_wp2_with fail
  refine (num_any _ _).mono ?_; rintro e w' ⟨rfl, rfl⟩
  go_wp2_with fail
  refine (num_any _ _).mono ?_; rintro e w' ⟨rfl, rfl⟩
  go_wp2_with fail
  go_ret
  exact ⟨rfl, HZ.out⟩

end Go.Proofs.Ytcjmgjdejljjkaa
