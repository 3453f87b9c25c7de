/-
  Contracts of package tlb: row, of and its test.
-/
import Derived.Test.YtiegonnnokldkaaTlb0
import Derived.Test.YtiegonnnokldkaaPlain2
import Derived.Test.YtiegonnnokldkaaChecked
namespace Go.Proofs.Ytiegonnnokldkaa
open Go.RowKit
set_option linter.unusedVariables false

/-- The program's cache: at block g, c how many may stay, n the count as it is written, l the lines that stand in front. -/
def PT (w : World) (g : Nat) (c n : Nat) (l : List Ln) : Prop :=
  ∃ z : List Int, l.length * 4 + z.length = 68 ∧ Blk w g 54 (ints ((c : Int) :: (n : Int) :: (lns l ++ z)))

section
variable {w w' : World} {g c n : Nat} {l : List Ln}
theorem PT.lt (h : PT w g c n l) : g < w.heap.size := by obtain ⟨z, _, hb⟩ := h; exact hb.lt
theorem PT.len (h : PT w g c n l) : l.length ≤ 17 := by obtain ⟨z, hz, _⟩ := h; omega
theorem PT.size (h : PT w g c n l) : w.cell? ⟨g, 0, none⟩ = some (.int .i64 c) := by obtain ⟨z, _, hb⟩ := h; rw [hb.cell]; rfl
theorem PT.count (h : PT w g c n l) : w.cell? ⟨g, 1, none⟩ = some (.int .i64 n) := by obtain ⟨z, _, hb⟩ := h; rw [hb.cell]; rfl
theorem PT.frozen (h : PT w g c n l) (i : Nat) : w.frozen? ⟨g, i, none⟩ = false := by obtain ⟨z, _, hb⟩ := h; exact hb.frozen i
theorem PT.drewN (h : PT w g c n l) (k : Nat) : PT (w.drewN k) g c n l := h
theorem PT.alloc (h : PT w g c n l) (o : Obj) : PT (w.alloc o) g c n l := by obtain ⟨z, hz, hb⟩ := h; exact ⟨z, hz, hb.alloc o⟩
theorem PT.below {B : Nat} (h : PT w g c n l) (hb : Below B w w') (hg : g < B) : PT w' g c n l := by obtain ⟨z, hz, h⟩ := h; exact ⟨z, hz, h.below hb hg⟩
theorem PT.grown {row : Option Nat} (h : PT w g c n l) (hb : w.grownBy w' row) (hg : some g ≠ row) : PT w' g c n l := by obtain ⟨z, hz, h⟩ := h; exact ⟨z, hz, h.grown hb hg⟩
theorem PT.far (h : PT w g c n l) {p : Addr} (hp : g ≠ p.block) (u : Value) : PT (w.setCell p u) g c n l := by obtain ⟨z, hz, h⟩ := h; exact ⟨z, hz, h.far hp u⟩
theorem PT.apart_int {a : Nat} {cs : List Value} (h : PT w g c n l) (ha : Blk w a 3 cs) : g ≠ a := by obtain ⟨z, hz, hb⟩ := h; exact hb.apart ha (by decide)
/-- A line's cells. -/
theorem PT.at_ (h : PT w g c n l) (i : Nat) (hi : i < l.length) : w.cell? ⟨g, 2 + i * 4, none⟩ = some (.int .i64 l[i].d) ∧ w.cell? ⟨g, 2 + i * 4 + 1, none⟩ = some (.int .i64 l[i].p) ∧ w.cell? ⟨g, 2 + i * 4 + 2, none⟩ = some (.int .i64 l[i].f) ∧ w.cell? ⟨g, 2 + i * 4 + 3, none⟩ = some (.int .i64 l[i].m) := by
  obtain ⟨z, hz, hb⟩ := h
  have hl := lns_len l
  have hg := lns_get l i hi
  have key : ∀ j x, (lns l)[i * 4 + j]? = some x → w.cell? ⟨g, 2 + i * 4 + j, none⟩ = some (.int .i64 x) := by
    intro j x hx
    rw [hb.cell]
    have hj : i * 4 + j < (lns l).length := (List.getElem?_eq_some_iff.1 hx).1
    simp only [ints, List.map_cons, show 2 + i * 4 + j = i * 4 + j + 1 + 1 by omega, List.getElem?_cons_succ, List.getElem?_map]
    rw [List.getElem?_append_left hj, hx]; rfl
  exact ⟨key 0 _ hg.1, key 1 _ hg.2.1, key 2 _ hg.2.2.1, key 3 _ hg.2.2.2⟩
end

theorem arr_h (w : World) (g n : Nat) (hn : n ≤ 17) : (Instr.sliceAt 52 (.pointer (some ⟨g, 2, none⟩)) none (some (.int .i64 (n : Int))) none).run Try.prog w = .ok (.slice (some ⟨g, 2, none⟩) n 17) w := by
  have ht := Try.underlying52
  have hl : Try.prog.arrayLen 52 = 17 := by kernel_rfl
  have he : Try.prog.elem 52 = 51 := by kernel_rfl
  have hz : (Go.sizeOf 51).run Try.prog w = .ok 4 w := by
    have hi : (Try.prog.info? 51).map (fun i => i.size) = some 4 := by kernel_rfl
    cases h : Try.prog.info? 51 with
    | none => rw [h] at hi; cases hi
    | some i => rw [h] at hi; simp only [Option.map_some, Option.some.injEq] at hi; simp [Go.sizeOf, typeInfo, h, hi]
  rw [run_sliceAt_array_h w 52 ⟨g, 2, none⟩ (by rw [hl, he]; exact ht) .i64 _ (by omega) (by rw [hl]; omega), he, hz, hl]
  simp [Result.andThen, slicedAt, add_none]

theorem prow_any (g c n : Nat) (l : List Ln) (w : World) (h : PT w g c n l) (hn : n ≤ 17) :
    Calls Try.prog 22 #[.pointer (some ⟨g, 0, none⟩)] w fun e w' => e = .returned (.slice (some ⟨g, 2, none⟩) n 17) ∧ ∃ k, w' = w.drewN k := by
  have hc := h.count
  have hs := fun w => arr_h w g n hn
  clear h
  go_enter Try.func22, Try.ntmps22
  go_wp2_with fail
  go_quiet (fail)
  go_wp2_with fail
  go_ret
  exact ⟨rfl, nq, rfl⟩

theorem plen_any (g c n : Nat) (l : List Ln) (w : World) (h : PT w g c n l) (hn : n ≤ 17) :
    Calls Try.prog 19 #[.pointer (some ⟨g, 0, none⟩)] w fun e w' => e = .returned (.int .i64 n) ∧ ∃ k, w' = w.drewN k := by
  have H := Lib.hid h; clear h
  go_enter Try.func19, Try.ntmps19
  go_wp2_with fail
  refine (prow_any g c n l _ H.out hn).mono ?_
  rintro e w' ⟨rfl, k, rfl⟩
  go_wp2_with fail
  go_ret
  exact ⟨rfl, k, rfl⟩

/-- The test for the line of a device's page. -/
def fK (a b : Nat) : Value := .func (.func 31) #[] #[.pointer (some ⟨a, 0, none⟩), .pointer (some ⟨b, 0, none⟩)]
/-- .. for a line of a device. -/
def fD (a : Nat) : Value := .func (.func 29) #[] #[.pointer (some ⟨a, 0, none⟩)]

theorem of_any (d p : Int) (w : World) :
    Calls Try.prog 24 #[.int .i64 d, .int .i64 p] w fun e w' => e = .returned (fK w.heap.size (w.heap.size + 1)) ∧ w' = (w.alloc (Obj.cells [Value.int .i64 d].toArray 3)).alloc (Obj.cells [Value.int .i64 p].toArray 3) := by
  go_enter Try.func24, Try.ntmps24
  go_wp2_with fail
  go_ret
  exact ⟨rfl, rfl⟩

theorem all1_any (a : Nat) (d : Int) (x : Ln) (w : World) (ha : w.cell? ⟨a, 0, none⟩ = some (.int .i64 d)) :
    Calls Try.prog 29 #[.agg #[.int .i64 x.d, .int .i64 x.p, .int .i64 x.f, .int .i64 x.m], .pointer (some ⟨a, 0, none⟩)] w fun e w' => e = .returned (.bool (isD d x)) ∧ Below w.heap.size w w' := by
  obtain ⟨x1, x2, x3, x4⟩ := x
  have hlt := World.block_lt_of_cell? w _ ha
  go_enter Try.func29, Try.ntmps29
  go_wp2_with fail
  go_ret
  exact ⟨rfl, (Below.refl _ _).alloc (Nat.le_refl _) _⟩

theorem of1_any (a b : Nat) (d p : Int) (x : Ln) (w : World) (ha : w.cell? ⟨a, 0, none⟩ = some (.int .i64 d)) (hb : w.cell? ⟨b, 0, none⟩ = some (.int .i64 p)) :
    Calls Try.prog 31 #[.agg #[.int .i64 x.d, .int .i64 x.p, .int .i64 x.f, .int .i64 x.m], .pointer (some ⟨a, 0, none⟩), .pointer (some ⟨b, 0, none⟩)] w fun e w' => e = .returned (.bool (isK d p x)) ∧ Below w.heap.size w w' := by
  obtain ⟨x1, x2, x3, x4⟩ := x
  have hlt := World.block_lt_of_cell? w _ ha
  have hlt := World.block_lt_of_cell? w _ hb
  go_enter Try.func31, Try.ntmps31
  by_cases he : x1 = d
  · subst he
    have HK := Lib.hid (show (x2 == p) = isK x1 p ⟨x1, x2, x3, x4⟩ by simp [isK])
    go_wp2_with fail
    go_ret
    exact ⟨by rw [← HK.out]; rfl, (Below.refl _ _).alloc (Nat.le_refl _) _⟩
  · have HK := Lib.hid (show false = isK d p ⟨x1, x2, x3, x4⟩ by simp [isK, he])
    have he' : (x1 == d) = false := by simpa using he
    clear he
    go_wp2_with fail
    go_ret
    exact ⟨by rw [← HK.out]; rfl, (Below.refl _ _).alloc (Nat.le_refl _) _⟩

/-- A test that the calls ask. -/
def Tst (w : World) (F : Value) (f : Ln → Bool) : Prop :=
  (∃ a b d p, F = fK a b ∧ f = isK d p ∧ Blk w a 3 [.int .i64 d] ∧ Blk w b 3 [.int .i64 p]) ∨ (∃ a d, F = fD a ∧ f = isD d ∧ Blk w a 3 [.int .i64 d])

section
variable {w w' : World} {F : Value} {f : Ln → Bool}
theorem Tst.below (h : Tst w F f) (hb : Below w.heap.size w w') : Tst w' F f := by
  rcases h with ⟨a, b, d, p, h1, h2, h3, h4⟩ | ⟨a, d, h1, h2, h3⟩
  · exact .inl ⟨a, b, d, p, h1, h2, h3.below hb h3.lt, h4.below hb h4.lt⟩
  · exact .inr ⟨a, d, h1, h2, h3.below hb h3.lt⟩
theorem Tst.grown {g : Nat} {t : TypeId} {cs : List Value} (h : Tst w F f) (hb : w.grownBy w' (some g)) (hg : Blk w g t cs) (ht : t ≠ 3) : Tst w' F f := by
  rcases h with ⟨a, b, d, p, h1, h2, h3, h4⟩ | ⟨a, d, h1, h2, h3⟩
  · exact .inl ⟨a, b, d, p, h1, h2, h3.grown hb (fun e => hg.apart h3 ht (by injection e with e; exact e.symm)), h4.grown hb (fun e => hg.apart h4 ht (by injection e with e; exact e.symm))⟩
  · exact .inr ⟨a, d, h1, h2, h3.grown hb (fun e => hg.apart h3 ht (by injection e with e; exact e.symm))⟩
end

/-- One round's facts: a line, and the test on it. -/
structure Rnd (w : World) (g c n : Nat) (l : List Ln) (F : Value) (f : Ln → Bool) : Prop where
  tab : PT w g c n l
  tst : Tst w F f

set_option maxRecDepth 100000 in
theorem ifn_any (g c n : Nat) (l : List Ln) (F : Value) (f : Ln → Bool) (w : World) (h : PT w g c n l) (ht : Tst w F f) :
    Calls Try.prog 23 #[.slice (some ⟨g, 2, none⟩) l.length 17, F] w fun e w' => e = .returned (.int .i64 (idx f l)) ∧ Below w.heap.size w w' := by
  have hlen := h.len
  have hgl := h.lt
  have H : Hid (PT w g c n l) := Lib.hid h
  have HT := Lib.hid ht
  obtain ⟨m, hm⟩ : ∃ m, m = l.length := ⟨_, rfl⟩
  rw [← hm] at hlen ⊢
  have HM := Lib.hid hm; clear hm h
  rcases ht with ⟨a, b, d, p, rfl, rfl, ha, hb⟩ | ⟨a, d, rfl, rfl, ha⟩
  · unfold fK at *
    have HA := Lib.hid ha; have HB := Lib.hid hb
    clear ha hb
    clear HT
    go_enter Try.func23, Try.ntmps23
    go_wp2_with fail
    go_loopw [8] (fun i wr => ∃ (k : Nat), k ≤ m ∧ i = .int .i64 k ∧ (∀ j (hj : j < k) (hj' : j < l.length), isK d p l[j] = false) ∧ Below w.heap.size w wr) (fun i _ => m - (intOf i).toNat)
    case atStart => exact ⟨0, by omega, rfl, fun j hj => by omega, Below.refl _ _⟩
    case round =>
      obtain ⟨k, hk, rfl, hall, hbel⟩ := hrel
      have hsz := hbel.size
      have HALL := Lib.hid hall; clear hall
      by_cases hlt : k < m
      · have hkl : k < l.length := by rw [← HM.out]; exact hlt
        have htab := H.out.below hbel hgl
        obtain ⟨c0, c1, c2, c3⟩ := htab.at_ k hkl
        generalize hx : l[k] = x at *
        have HX := Lib.hid hx; clear hx htab
        go_wp2_with fail
        refine (of1_any _ _ d p x _ ((HA.out.below hbel HA.out.lt).cell 0) ((HB.out.below hbel HB.out.lt).cell 0)).mono ?_
        rintro e w1 ⟨rfl, b1⟩
        have bel1 := Below.down hbel b1 hsz
        clear c0 c1 c2 c3 b1 hbel
        cases hf : isK d p x with
        | true =>
          have HF := Lib.hid hf; clear hf
          go_wp2_with fail
          go_ret
          exact ⟨by rw [idx_found _ l k hkl (by rw [HX.out]; exact HF.out) (fun j hj => HALL.out j hj (by omega))]; rfl, bel1⟩
        | false =>
          have HF := Lib.hid hf; clear hf
          go_wp2_with fail
          go_roundw
          case rel => exact ⟨k + 1, by omega, by go_num, fun j hj hj' => by
            by_cases e : j = k
            · subst e; rw [HX.out]; exact HF.out
            · exact HALL.out j (by omega) hj', bel1⟩
          case measure => simp [intOf]; omega
      · go_wp2_with fail
        go_ret
        exact ⟨by rw [idx_none _ l (fun j hj => HALL.out j (by have := HM.out; omega) hj)]; rfl, hbel⟩
  · unfold fD at *
    have HA := Lib.hid ha
    clear ha
    clear HT
    go_enter Try.func23, Try.ntmps23
    go_wp2_with fail
    go_loopw [8] (fun i wr => ∃ (k : Nat), k ≤ m ∧ i = .int .i64 k ∧ (∀ j (hj : j < k) (hj' : j < l.length), isD d l[j] = false) ∧ Below w.heap.size w wr) (fun i _ => m - (intOf i).toNat)
    case atStart => exact ⟨0, by omega, rfl, fun j hj => by omega, Below.refl _ _⟩
    case round =>
      obtain ⟨k, hk, rfl, hall, hbel⟩ := hrel
      have hsz := hbel.size
      have HALL := Lib.hid hall; clear hall
      by_cases hlt : k < m
      · have hkl : k < l.length := by rw [← HM.out]; exact hlt
        have htab := H.out.below hbel hgl
        obtain ⟨c0, c1, c2, c3⟩ := htab.at_ k hkl
        generalize hx : l[k] = x at *
        have HX := Lib.hid hx; clear hx htab
        go_wp2_with fail
        refine (all1_any _ d x _ ((HA.out.below hbel HA.out.lt).cell 0)).mono ?_
        rintro e w1 ⟨rfl, b1⟩
        have bel1 := Below.down hbel b1 hsz
        clear c0 c1 c2 c3 b1 hbel
        cases hf : isD d x with
        | true =>
          have HF := Lib.hid hf; clear hf
          go_wp2_with fail
          go_ret
          exact ⟨by rw [idx_found _ l k hkl (by rw [HX.out]; exact HF.out) (fun j hj => HALL.out j hj (by omega))]; rfl, bel1⟩
        | false =>
          have HF := Lib.hid hf; clear hf
          go_wp2_with fail
          go_roundw
          case rel => exact ⟨k + 1, by omega, by go_num, fun j hj hj' => by
            by_cases e : j = k
            · subst e; rw [HX.out]; exact HF.out
            · exact HALL.out j (by omega) hj', bel1⟩
          case measure => simp [intOf]; omega
      · go_wp2_with fail
        go_ret
        exact ⟨by rw [idx_none _ l (fun j hj => HALL.out j (by have := HM.out; omega) hj)]; rfl, hbel⟩

end Go.Proofs.Ytiegonnnokldkaa
