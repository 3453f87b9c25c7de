/-
  Layer 10's law Scheds: it answers true for every input.
-/
import Derived.Test.YtljgecnpohmmfaaSchAwake
import Derived.Test.YtljgecnpohmmfaaSch5
import Derived.Test.YtljgecnpohmmfaaSch6
namespace Go.Proofs.Ytljgecnpohmmfaa
open Go.RowKit
set_option linter.unusedVariables false
set_option linter.unusedSimpArgs false
set_option maxRecDepth 100000

/-- Both slices, and what was lent. -/
structure Two (w0 : World) (B : Nat) (v u : Value) (n : Nat) (l : List Win) (w : World) : Prop where
  a : Ws w v n l
  b : Ws w u n l
  k : Lent B w v n l
  below : Below w0.heap.size w0 w
  size : w0.heap.size ≤ w.heap.size
theorem Two.next {w0 w w' : World} {B n : Nat} {v u : Value} {l : List Win} (h : Two w0 B v u n l w) (hb : Below w.heap.size w w') : Two w0 B v u n l w' :=
  ⟨h.a.below hb, h.b.below hb, h.k.below hb, Below.down h.below hb h.size, Nat.le_trans h.size hb.size⟩

section
variable {v : Value} {n : Nat} {l : List Win} {w : World}
theorem rmay_ws (h : Ws w v n l) (m p : Int) (b : Bool) (hb : mayW l m p = b) :
    Calls Try.prog 13 #[v, .int .i64 m, .int .i64 p] w fun e w' => e = .returned (.bool b) ∧ Below w.heap.size w w' := by
  obtain ⟨A, c, rfl⟩ := h.form; subst hb; exact rwmay_any A n c l m p w h.sl h.big h.len h.in64
theorem rdlv_ws (h : Ws w v n l) (m t : Int) (b : Int) (hb : dlvN l m t = b) :
    Calls Try.prog 15 #[v, .int .i64 m, .int .i64 t] w fun e w' => e = .returned (.int .i64 b) ∧ Below w.heap.size w w' := by
  obtain ⟨A, c, rfl⟩ := h.form; subst hb; exact rdlv_any A n c l m t w h.sl h.big h.len h.in64
theorem ropn_ws (h : Ws w v n l) (m t : Int) (b : Int) (hb : opnN l m t = b) :
    Calls Try.prog 17 #[v, .int .i64 m, .int .i64 t] w fun e w' => e = .returned (.int .i64 b) ∧ Below w.heap.size w w' := by
  obtain ⟨A, c, rfl⟩ := h.form; subst hb; exact ropn_any A n c l m t w h.sl h.big h.len h.in64
theorem rnxt_ws (h : Ws w v n l) (m p t : Int) (a c : Int) (ha : nxtN l m p t = a) (hc : nxtC l m p t = c) :
    Calls Try.prog 10 #[v, .int .i64 m, .int .i64 p, .int .i64 t] w fun e w' => e = .returned (.tuple #[.int .i64 a, .int .i64 c]) ∧ Below w.heap.size w w' := by
  obtain ⟨A, c, rfl⟩ := h.form; subst ha hc; exact rnxt_any A n _ l m p t w h.sl h.big h.len h.in64
end

set_option maxHeartbeats 4000000 in
theorem law_Scheds (u : Value) (n : Nat) (zs : List Int) (m p q t : Int) (w : World) (hs : Sl w u n 4 (ints zs)) (hn : n ≤ maxLen) (hl : zs.length = n * 4) (hr : ∀ z ∈ zs, -9223372036854775808 ≤ z ∧ z ≤ 9223372036854775807)
    (hz : ∀ A n c, u = .slice A n c → n * 32 ≤ 140737488351232 ∧ (A = none → c = 0)) :
    Calls Try.prog 3 #[u, .int .i64 m, .int .i64 p, .int .i64 q, .int .i64 t] w fun e w' => e = .returned (.bool true) ∧ Below w.heap.size w w' := by
  obtain ⟨l, rfl, hll⟩ := wins_of n zs hl
  have hu : Ws w u n l := ⟨hs, hll, hn, w64_of l hr⟩
  obtain ⟨A, cap, rfl⟩ := hu.form
  obtain ⟨hz1, hz2⟩ := hz A n cap rfl
  obtain ⟨N, hN⟩ : ∃ N, nxtN l m q t = N := ⟨_, rfl⟩
  obtain ⟨C, hC⟩ : ∃ C, nxtC l m q t = C := ⟨_, rfl⟩
  obtain ⟨M, hM⟩ : ∃ M, mayW l m p = M := ⟨_, rfl⟩
  obtain ⟨D, hD⟩ : ∃ D, dlvN l m t = D := ⟨_, rfl⟩
  obtain ⟨O, hO⟩ : ∃ O, opnN l m t = O := ⟨_, rfl⟩
  have HN := Lib.hid hN; have HC := Lib.hid hC; have HM := Lib.hid hM; have HD := Lib.hid hD; have HO := Lib.hid hO
  have HL := Lib.hid (lend_wins (.slice A n cap) n l w hs hll hz1 (by intro m c e; simp only [Value.slice.injEq] at e; obtain ⟨e1, e2, e3⟩ := e; subst e3; exact hz2 e1))
  have eN : (N == N) = true := by simp
  have eC : (C == C) = true := by simp
  have eM : (M == M) = true := by simp
  have eD : (D == D) = true := by simp
  have eO : (O == O) = true := by simp
  clear hz hz2 hl hr hs hN hC hM hD hO
  have HU := Lib.hid hu; clear hu
  go_enter Try.func3, Try.ntmps3
  go_wp2_with fail
  refine HL.out.mono ?_
  rintro e w1 ⟨v, rfl, hk, b⟩
  have h2 : Two w w.heap.size v (.slice A n cap) n l w1 := ⟨⟨hk.sl hll, hll, hn, HU.out.in64⟩, HU.out.below b, hk, b, b.size⟩
  obtain ⟨B, hB⟩ : ∃ B, B = w.heap.size := ⟨_, rfl⟩
  have H2 : Hid (Two w B v (.slice A n cap) n l w1) := Lib.hid (by rw [hB]; exact h2)
  clear hk b h2 hB HL
  go_wp2_with fail
  refine (nxt_ws H2.out.a m q t N C HN.out HC.out).mono ?_
  rintro e w2 ⟨rfl, b⟩
  have H2 := Lib.hid (H2.out.next b); clear b
  go_wp2_with fail
  refine (rnxt_ws H2.out.b m q t N C HN.out HC.out).mono ?_
  rintro e w2 ⟨rfl, b⟩
  have H2 := Lib.hid (H2.out.next b); clear b
  go_wp2_with (go_at_call 11; refine (num_any _ _).mono ?_; rintro e w' ⟨rfl, rfl⟩)
  refine (may_ws H2.out.a m p M HM.out).mono ?_
  rintro e w2 ⟨rfl, b⟩
  have H2 := Lib.hid (H2.out.next b); clear b
  go_wp2_with fail
  refine (rmay_ws H2.out.b m p M HM.out).mono ?_
  rintro e w2 ⟨rfl, b⟩
  have H2 := Lib.hid (H2.out.next b); clear b
  go_wp2_with fail
  refine (dlv_ws H2.out.a m t D HD.out).mono ?_
  rintro e w2 ⟨rfl, b⟩
  have H2 := Lib.hid (H2.out.next b); clear b
  go_wp2_with fail
  refine (rdlv_ws H2.out.b m t D HD.out).mono ?_
  rintro e w2 ⟨rfl, b⟩
  have H2 := Lib.hid (H2.out.next b); clear b
  go_wp2_with fail
  refine (opn_ws H2.out.a m t O HO.out).mono ?_
  rintro e w2 ⟨rfl, b⟩
  have H2 := Lib.hid (H2.out.next b); clear b
  go_wp2_with fail
  refine (ropn_ws H2.out.b m t O HO.out).mono ?_
  rintro e w2 ⟨rfl, b⟩
  have H2 := Lib.hid (H2.out.next b); clear b
  go_wp2_with fail
  refine (kept_wins B v (.slice A n cap) n l _ H2.out.k H2.out.b.sl hll hz1).mono ?_
  rintro e w2 ⟨rfl, b⟩
  have H2 := Lib.hid (H2.out.next b); clear b
  go_wp2_with fail
  refine (sawake_any _).mono ?_
  rintro e w2 ⟨rfl, b⟩
  have H2 := Lib.hid (H2.out.next b); clear b
  go_wp2_with fail
  go_ret
  exact ⟨rfl, H2.out.below⟩

end Go.Proofs.Ytljgecnpohmmfaa
