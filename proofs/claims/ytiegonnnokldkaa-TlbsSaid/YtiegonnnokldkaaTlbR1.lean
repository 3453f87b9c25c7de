/-
  Contracts of the document's cache: NewTlb, at, Len, Get.
-/
import Derived.Test.YtiegonnnokldkaaTlb5
namespace Go.Proofs.Ytiegonnnokldkaa
open Go.RowKit
set_option linter.unusedVariables false

/-- The document's cache: at block r, c how many may stay, the slice v, which holds l in a row not below B. -/
structure RT (w : World) (B r : Nat) (c : Nat) (v : Value) (l : List Ln) : Prop where
  len : l.length ≤ 17
  blk : Blk w r 57 [.int .i64 c, v]
  own : w.ownsRow B 68 4 v l.length (ints (lns l))

section
variable {w w' : World} {B r c : Nat} {v : Value} {l : List Ln}
theorem RT.apart (h : RT w B r c v l) : some r ≠ v.ownBlock := fun e => own_apart_blk h.own h.blk (by decide) e.symm
theorem RT.drewN (h : RT w B r c v l) (n : Nat) : RT (w.drewN n) B r c v l := ⟨h.len, h.blk, h.own⟩
theorem RT.below (h : RT w B r c v l) (hb : Below w.heap.size w w') : RT w' B r c v l := ⟨h.len, h.blk.below hb h.blk.lt, own_below h.own hb⟩
theorem RT.grown {row : Option Nat} (h : RT w B r c v l) (hb : w.grownBy w' row) (hr : some r ≠ row) (hv : v.ownBlock = none ∨ v.ownBlock ≠ row) : RT w' B r c v l := ⟨h.len, h.blk.grown hb hr, h.own.kept hb hv⟩
theorem RT.cell0 (h : RT w B r c v l) : w.cell? ⟨r, 0, none⟩ = some (.int .i64 c) := by rw [h.blk.cell]; rfl
theorem RT.cell1 (h : RT w B r c v l) : w.cell? ⟨r, 1, none⟩ = some v := by rw [h.blk.cell]; rfl
/-- A line's cells, in the slice's own spelling. -/
theorem RT.at_ (h : RT w B r c v l) (i : Nat) (hi : i < l.length) : ∃ b cap, v = .slice (some ⟨b, 0, none⟩) l.length cap ∧ b ≠ r ∧ l.length ≤ cap ∧ w.cell? ⟨b, i * 4, none⟩ = some (.int .i64 l[i].d) ∧ w.cell? ⟨b, i * 4 + 1, none⟩ = some (.int .i64 l[i].p) ∧ w.cell? ⟨b, i * 4 + 2, none⟩ = some (.int .i64 l[i].f) ∧ w.cell? ⟨b, i * 4 + 3, none⟩ = some (.int .i64 l[i].m) := by
  have ha := h.apart
  have hcells := h.own.cells (g := v.ownBlock.getD 0)
  obtain ⟨_, ⟨rfl, e0⟩ | ⟨g, cap, cur, rfl, hb, hg, hnc, _, hsz, ht⟩⟩ := h.own
  · omega
  · have hc := hcells rfl
    have hg := lns_get l i hi
    have key : ∀ j x, (lns l)[j]? = some x → w.cell? ⟨g, j, none⟩ = some (.int .i64 x) := by
      intro j x hx
      have := hc j (.int .i64 x) (by simp only [ints, List.getElem?_map, hx]; rfl)
      simpa [Value.ownBlock, add_none] using this
    exact ⟨g, cap, rfl, fun e => ha (by rw [e]; rfl), hnc, key _ _ hg.1, key _ _ hg.2.1, key _ _ hg.2.2.1, key _ _ hg.2.2.2⟩
/-- The slice's spelling. -/
theorem RT.form (h : RT w B r c v l) : ∃ A cap, v = .slice A l.length cap ∧ l.length ≤ cap := by
  obtain ⟨A, cap, e, hc, _⟩ := Sl.own h.own
  exact ⟨A, cap, e, hc⟩
end

theorem rtnew_no (c : Int) (w : World) (h : ¬ (1 ≤ c ∧ c ≤ 16)) :
    Calls Try.prog 8 #[.int .i64 c] w fun e w' => e = .returned (.tuple #[.pointer none, .int .i64 600]) ∧ w = w' := by
  by_cases h1 : c < 1
  · clear h
    go_enter Try.func8, Try.ntmps8
    go_wp2
    go_ret2
    exact ⟨rfl, rfl⟩
  · have h2 : 16 < c := by omega
    clear h
    go_enter Try.func8, Try.ntmps8
    go_wp2
    go_ret2
    exact ⟨rfl, rfl⟩

theorem rtnew_yes (c : Nat) (w : World) (h1 : 1 ≤ c) (h2 : c ≤ 16) :
    Calls Try.prog 8 #[.int .i64 c] w fun e w' => e = .returned (.tuple #[.pointer (some ⟨w.heap.size, 0, none⟩), .int .i64 0]) ∧ RT w' w.heap.size w.heap.size c (.slice none 0 0) [] ∧ Below w.heap.size w w' := by
  have h3 : decide ((c : Int) < 1) = false := by simp; omega
  have h4 : decide ((16 : Int) < c) = false := by simp; omega
  go_enter Try.func8, Try.ntmps8
  go_wp2
  go_ret2
  exact ⟨rfl, ⟨by simp, Blk.new w _ [.int .i64 (c : Int), .slice none 0 0], World.ownsRow_nil _ _ _ _⟩, (Below.refl _ _).alloc (Nat.le_refl _) _⟩

theorem rlen_any (B r c : Nat) (v : Value) (l : List Ln) (w : World) (h : RT w B r c v l) :
    Calls Try.prog 20 #[.pointer (some ⟨r, 0, none⟩)] w fun e w' => e = .returned (.int .i64 l.length) ∧ w = w' := by
  obtain ⟨A, cap, rfl, _⟩ := h.form
  have hc := h.cell1
  clear h
  go_enter Try.func20, Try.ntmps20
  go_wp2
  go_ret
  exact ⟨rfl, rfl⟩

set_option maxRecDepth 100000 in
theorem rat_any (B r c : Nat) (v : Value) (l : List Ln) (d p : Int) (w : World) (h : RT w B r c v l) :
    Calls Try.prog 27 #[.pointer (some ⟨r, 0, none⟩), .int .i64 d, .int .i64 p] w fun e w' => e = .returned (.int .i64 (idx (isK d p) l)) ∧ w = w' := by
  have hlen := h.len
  obtain ⟨A, cap, hv, hcap⟩ := h.form
  have H := Lib.hid h; clear h
  obtain ⟨m, hm⟩ : ∃ m, m = l.length := ⟨_, rfl⟩
  rw [← hm] at hlen hv hcap
  have HM := Lib.hid hm; clear hm
  subst hv
  have hc := H.out.cell1
  go_enter Try.func27, Try.ntmps27
  go_wp2_with fail
  go_loop [7] (fun i => ∃ (k : Nat), k ≤ m ∧ i = .int .i64 k ∧ (∀ j (hj : j < k) (hj' : j < l.length), isK d p l[j] = false)) (fun i => m - (intOf i).toNat)
  case atStart => exact ⟨0, by omega, rfl, fun j hj => by omega⟩
  case round =>
    obtain ⟨k, hk, rfl, hall⟩ := hrel
    have HALL := Lib.hid hall; clear hall
    by_cases hlt : k < m
    · have hkl : k < l.length := by rw [← HM.out]; exact hlt
      obtain ⟨b, cap', hv, hbr, _, c0, c1, _, _⟩ := H.out.at_ k hkl
      simp only [Value.slice.injEq] at hv
      obtain ⟨rfl, _, rfl⟩ := hv
      generalize hx : l[k] = x at *
      have HX := Lib.hid hx; clear hx
      by_cases e1 : x.d = d
      · rw [e1] at c0
        by_cases e2 : x.p = p
        · rw [e2] at c1
          have HF := Lib.hid ((isK_iff d p x).2 ⟨e1, e2⟩)
          clear e1 e2
          go_wp2_with fail
          go_ret
          exact ⟨by rw [idx_found _ l k hkl (by rw [HX.out]; exact HF.out) (fun j hj => HALL.out j hj (by omega))]; rfl, rfl⟩
        · have HF : Hid (isK d p x = false) := Lib.hid (by rw [← Bool.not_eq_true, isK_iff]; intro h; exact e2 h.2)
          have e2' : (x.p == p) = false := by simpa using e2
          clear e1 e2
          go_wp2_with fail
          go_round
          case rel => exact ⟨k + 1, by omega, by go_num, fun j hj hj' => by
            by_cases e : j = k
            · subst e; rw [HX.out]; exact HF.out
            · exact HALL.out j (by omega) hj'⟩
          case measure => simp [intOf]; omega
      · have HF : Hid (isK d p x = false) := Lib.hid (by rw [← Bool.not_eq_true, isK_iff]; intro h; exact e1 h.1)
        have e1' : (x.d == d) = false := by simpa using e1
        clear e1
        go_wp2_with fail
        go_round
        case rel => exact ⟨k + 1, by omega, by go_num, fun j hj hj' => by
          by_cases e : j = k
          · subst e; rw [HX.out]; exact HF.out
          · exact HALL.out j (by omega) hj'⟩
        case measure => simp [intOf]; omega
    · go_wp2_with fail
      go_ret
      exact ⟨by rw [idx_none _ l (fun j hj => HALL.out j (by have := HM.out; omega) hj)]; rfl, rfl⟩

end Go.Proofs.Ytiegonnnokldkaa
