/-
  Layer 6's law TlbForms: it answers true for every input.
-/
import Derived.Test.YtiegonnnokldkaaTlbAwake
namespace Go.Proofs.Ytiegonnnokldkaa
open Go.RowKit
set_option linter.unusedVariables false

theorem AwS.set {w w1 : World} {g h : Nat} {f m : Int} (h0 : AwS w g h f m w1) {p : Addr} (hp : w.heap.size ≤ p.block) (hn : h ≠ p.block) (u : Value) : AwS w g h f m (w1.setCell p u) :=
  ⟨h0.blk.far hn u, h0.b.setCell hp u, h0.wg, h0.ne⟩

theorem pput_form (g c : Nat) (l : List Ln) (d p f m : Int) (w : World) (h : PT w g c l.length l) (h1 : 1 ≤ c) (h2 : c ≤ 16) (h3 : l.length ≤ c) (hm : mayB d p f m = false) :
    Calls Try.prog 11 #[.pointer (some ⟨g, 0, none⟩), .int .i64 d, .int .i64 p, .agg #[.int .i64 f, .int .i64 m]] w fun e w' => e = .returned (.int .i64 600) ∧ PT w' g c l.length l ∧ w.grownBy w' (some g) :=
  pput_is g c l l d p f m 600 w h h1 h2 h3 (by simp [putA, hm]) (by simp [putC, hm])

theorem none_of (l : List Ln) (f : Ln → Bool) (h : ∀ x ∈ l, f x = false) : l.filter (fun x => !f x) = l ∧ idx f l = -1 := by
  refine ⟨by rw [List.filter_eq_self]; intro x hx; simp [h x hx], idx_none f l (fun j hj => h _ (List.getElem_mem hj))⟩

/-- The one line of this law. -/
def ln1 : List Ln := [⟨1, 2, 3, 3⟩]
theorem ln1_K (d p : Int) (h : d ≠ 1) : getB ln1 d p = false ∧ ln1.filter (fun x => !isK d p x) = ln1 := by
  have := none_of ln1 (isK d p) (by intro x hx; simp only [ln1, List.mem_cons, List.not_mem_nil, or_false] at hx; subst hx; simp [isK]; omega)
  exact ⟨by simp [getB, this.2], this.1⟩
theorem ln1_D (d : Int) (h : d ≠ 1) : ln1.filter (fun x => !isD d x) = ln1 :=
  (none_of ln1 (isD d) (by intro x hx; simp only [ln1, List.mem_cons, List.not_mem_nil, or_false] at hx; subst hx; simp [isD]; omega)).1

set_option maxRecDepth 100000 in
set_option maxHeartbeats 4000000 in
theorem law_TlbForms (a x : Int) (w0 : (Lit.int .i64 a).wf = true) (w1 : (Lit.int .i64 x).wf = true) (w : World) :
    Calls Try.prog 5 #[.int .i64 a, .int .i64 x] w fun e w' => e = .returned (.bool true) ∧ Below w.heap.size w w' := by
  have hX := band x 1023 (by omega) (by omega)
  have hU := u64b a
  generalize hX' : bits BinOp.and IntKind.i64 x 1023 = X at hX
  generalize hU' : IntKind.u64.wrap a = U at hU
  obtain ⟨hX0, hX1⟩ := hX
  obtain ⟨hU0, hU1⟩ := hU
  have hI0 : 0 ≤ U % 7 := by omega
  have hI1 : U % 7 < 7 := by omega
  generalize hI' : U % 7 = I at hI0 hI1
  clear w0 w1
  go_enter Try.func5, Try.ntmps5
  go_wp2_with fail
  refine (tawake_any _).mono ?_
  rintro e wa ⟨rfl, ba⟩
  have hsa := ba.size
  go_wp2_with fail
  refine (tnew_no _ _ (by omega)).mono ?_
  rintro e w' ⟨rfl, rfl⟩
  go_wp2_with fail
  refine (tnew_no _ _ (by omega)).mono ?_
  rintro e w' ⟨rfl, rfl⟩
  go_wp2_with fail
  refine (tnew 2 _ (by omega) (by omega)).mono ?_
  rintro e w1 ⟨rfl, t1, b1⟩
  have b1' := Below.down ba b1 hsa
  have hs1 := t1.lt
  generalize hg : wa.heap.size = g at *
  have hwg : w.heap.size ≤ g := by omega
  have HG := Lib.hid hg; clear hg b1 ba
  rw [show (2 : Int).toNat = 2 from rfl] at t1
  go_wp2_with fail
  refine (num_any _ _).mono ?_
  rintro e w' ⟨rfl, rfl⟩
  go_wp2_with fail
  change Calls _ _ _ (w1.alloc (.cells (ints [3, 3]).toArray 33)) _
  have hS : AwS w g w1.heap.size 3 3 (w1.alloc (.cells (ints [3, 3]).toArray 33)) := ⟨Blk.new _ _ _, b1'.alloc b1'.size _, hwg, by omega⟩
  have t2 : PT (w1.alloc (.cells (ints [3, 3]).toArray 33)) g 2 ([] : List Ln).length [] := t1.alloc _
  generalize w1.alloc (.cells (ints [3, 3]).toArray 33) = w2 at *
  generalize w1.heap.size = y at *
  clear t1 b1' hs1
  ((with_reducible refine (pput_is g 2 [] ln1 1 2 3 3 0 _ t2 (by omega) (by omega) (by decide) rfl rfl).mono ?_); rintro e w3 ⟨rfl, t3, g3⟩)
  replace hS := hS.grown g3
  clear t2 g3
  have hS4 := fun o => hS.below ((Below.refl _ _).alloc (Nat.le_refl w3.heap.size) o)
  have t4 := fun o => t3.alloc o
  clear t3 hS hX' hU'
  go_wp2_with fail
  all_goals
    refine (pput_form g 2 ln1 _ _ _ _ _ (t4 _) (by omega) (by omega) (by decide) (by unfold mayB; exact decide_eq_false (by omega))).mono ?_
    rintro e w5 ⟨rfl, t5, g5⟩
    have hS5 := (hS4 _).grown g5
    clear t4 g5 hS4
    go_wp2_with fail
    ((with_reducible refine (pget_is g 2 ln1 1 2 3 3 true _ t5 rfl rfl rfl).mono ?_); rintro e w6 ⟨rfl, b6⟩)
    replace hS5 := hS5.below b6
    replace t5 := t5.below b6 t5.lt
    clear b6
    obtain ⟨e2, e3, hS6⟩ := hS5.all
    have hyl := hS5.blk.lt
    clear hS5
    go_wp2_with (go_at_call 9; refine (num_any _ _).mono ?_; rintro e w' ⟨rfl, rfl⟩)
    have t6 := t5.alloc (.cells #[Value.int .i64 3, .int .i64 3] 33)
    have hS7 := hS6.below ((Below.refl _ _).alloc (Nat.le_refl w6.heap.size) (.cells #[Value.int .i64 3, .int .i64 3] 33))
    clear t5 hS6 e2 e3 hyl
    generalize w6.alloc (.cells #[Value.int .i64 3, .int .i64 3] 33) = w7 at *
    ((with_reducible refine (plen_is g 2 _ ln1 1 _ t6 (by decide) rfl).mono ?_); rintro e w8 ⟨rfl, q, rfl⟩)
    replace hS7 := hS7.drewN q
    replace t6 := t6.drewN q
    generalize w7.drewN q = w8 at *
    have hK := ln1_K (4 + (1 + X)) 2 (by omega)
    have HK1 := Lib.hid hK.1; have HK2 := Lib.hid hK.2
    have HD := Lib.hid (ln1_D (-(1 + X)) (by omega))
    clear hK
    go_wp2_with fail
    refine (pdrop_is g 2 ln1 ln1 (4 + (1 + X)) 2 false _ t6 HK1.out HK2.out).mono ?_
    rintro e w9 ⟨rfl, t9, g9⟩
    replace hS7 := hS7.grown g9
    clear t6 g9
    go_wp2_with fail
    refine (pall_is g 2 ln1 ln1 (-(1 + X)) 0 _ t9 HD.out (by decide)).mono ?_
    rintro e w10 ⟨rfl, t10, g10⟩
    replace hS7 := hS7.grown g10
    clear t9 g10
    go_wp2_with fail
    go_ret
    exact ⟨rfl, hS7.b⟩

end Go.Proofs.Ytiegonnnokldkaa
