/-
  Contracts of package frames: All, New.
-/
import Derived.Test.YtamhnnkmjhapmaaFrames
namespace Go.Proofs.Ytamhnnkmjhapmaa
open Go.RowKit
set_option linter.unusedVariables false
set_option maxRecDepth 100000

theorem infoInt : (Try.prog.info? 3).map (fun i => (i.zero, i.size, i.bytes)) = some (some (.int .i64 0), 1, 8) := by kernel_rfl

/-- What a call leaves that answers a list of ints: it stands in a row of its own; below block B nothing has turned. -/
def IntsOf (L : List Int) (w : World) (e : Ending) (w' : World) : Prop :=
  ∃ v, e = .returned v ∧ w'.ownsRow w.heap.size 3 1 v L.length (ints L) ∧ Below w.heap.size w w'

theorem int_one (x : Int) : ∀ u ∈ [Value.int .i64 x], u.oneCell' = true := by
  intro u hu
  simp only [List.mem_cons, List.not_mem_nil, or_false] at hu
  subst hu; rfl

theorem onew_no (c : Int) (w : World) (h : ¬ (1 ≤ c ∧ c ≤ 64)) :
    Calls Try.prog 80 #[.int .i64 c] w fun e w' => e = .returned (.tuple #[.pointer none, .int .i64 200]) ∧ w = w' := by
  by_cases h1 : c < 1
  · clear h
    go_enter Try.func80, Try.ntmps80
    go_wp2
    go_ret2
    exact ⟨rfl, rfl⟩
  · have h2 : 64 < c := by omega
    clear h
    go_enter Try.func80, Try.ntmps80
    go_wp2
    go_ret2
    exact ⟨rfl, rfl⟩

/-- A new table. -/
def free (c : Nat) : List Int := List.replicate c (-1)
theorem free_len (c : Nat) : (free c).length = c := by simp [free]
theorem free_range (c : Nat) : ∀ x ∈ free c, -2 ≤ x ∧ x ≤ 3 := by
  intro x hx
  have := List.eq_of_mem_replicate hx
  omega

/-- The cells of a new table: kept closed to the walk. -/
def zOwn : Array Value := (Value.int .i64 0 :: List.replicate 64 (Value.int .i64 0)).toArray
theorem zOwn_ne : ¬ (zOwn = #[]) := by simp [zOwn]
theorem zOwn_run (w : World) : Sem.run Try.prog (zeroValue 107) w = .ok (.agg zOwn) w := by
  have hi : (Try.prog.info? 107).map (fun i => i.zero) = some (some (.agg zOwn)) := by kernel_rfl
  cases h : Try.prog.info? 107 with
  | none => rw [h] at hi; cases hi
  | some i =>
    rw [h] at hi
    simp only [Option.map_some, Option.some.injEq] at hi
    simp [zeroValue, typeInfo, h, hi]
theorem zOwn_set (c : Int) : zOwn.setIfInBounds 0 (.int .i64 c) = (Value.int .i64 c :: (ints (free 0) ++ List.replicate 64 (Value.int .i64 0))).toArray := by
  simp [zOwn, free, ints]

/-- A table on the way. -/
def Half (w : World) (g c k : Nat) : Prop := ∃ rest : List Value, rest.length = 64 - k ∧ Blk w g 107 (.int .i64 c :: (ints (free k) ++ rest))
theorem Half.step {w : World} {g c k : Nat} (h : Half w g c k) (hk : k < 64) : (∃ u, w.cell? ⟨g, 1 + k, none⟩ = some u) ∧ w.frozen? ⟨g, 1 + k, none⟩ = false ∧ Half (w.setCell ⟨g, 1 + k, none⟩ (.int .i64 (-1))) g c (k + 1) := by
  obtain ⟨rest, hr, h⟩ := h
  match rest, hr with
  | [], hr => simp at hr; omega
  | u :: rest, hr =>
    have hl : (ints (free k)).length = k := by rw [ints_len, free_len]
    refine ⟨⟨u, ?_⟩, h.frozen _, rest, by simp at hr; omega, ?_⟩
    · rw [h.cell, Nat.add_comm, List.getElem?_cons_succ, List.getElem?_append_right (by omega), hl, Nat.sub_self]; rfl
    · have h' := h.set (1 + k) (.int .i64 (-1))
      rw [Nat.add_comm 1 k, List.set_cons_succ, List.set_append_right _ _ (by omega), hl, Nat.sub_self, List.set_cons_zero] at h'
      rw [Nat.add_comm 1 k]
      have e : ints (free (k + 1)) = ints (free k) ++ [Value.int .i64 (-1)] := by simp [ints, free, List.replicate_succ']
      rw [e, List.append_assoc]
      exact h'
theorem Half.tab {w : World} {g c : Nat} (h : Half w g c c) (hc : c ≤ 64) : Tab w g (free c) := by
  obtain ⟨rest, hr, h⟩ := h
  refine ⟨by rw [free_len]; exact hc, rest, by rw [free_len]; exact hr, by rw [free_len]; exact h⟩

theorem onew_yes (c : Nat) (w : World) (h1 : 1 ≤ c) (h2 : c ≤ 64) :
    Calls Try.prog 80 #[.int .i64 c] w fun e w' => e = .returned (.tuple #[.pointer (some ⟨w.heap.size, 0, none⟩), .int .i64 0]) ∧ Tab w' w.heap.size (free c) ∧ Below w.heap.size w w' := by
  have hz := zOwn_run
  have hne := zOwn_ne
  have h3 : decide ((c : Int) < 1) = false := by simp; omega
  have h4 : decide ((64 : Int) < c) = false := by simp; omega
  go_enter Try.func80, Try.ntmps80
  go_wp2
  have hw : Half (w.alloc (.cells (zOwn.setIfInBounds 0 (.int .i64 c)) 107)) w.heap.size c 0 := by
    rw [zOwn_set]; exact ⟨_, by simp, Blk.new _ _ _⟩
  have hb : Below w.heap.size w (w.alloc (.cells (zOwn.setIfInBounds 0 (.int .i64 c)) 107)) := (Below.refl _ _).alloc (Nat.le_refl _) _
  generalize w.alloc (.cells (zOwn.setIfInBounds 0 (.int .i64 c)) 107) = w1 at *
  clear hz hne h3 h4
  go_loopw [16] (fun i wr => ∃ k : Nat, k ≤ c ∧ i = .int .i64 k ∧ Half wr w.heap.size c k ∧ Below w.heap.size w wr) (fun i _ => c - (intOf i).toNat)
  case atStart => exact ⟨0, by omega, rfl, hw, hb⟩
  case round =>
    obtain ⟨k, hk, rfl, hh, hbel⟩ := hrel
    by_cases hlt : k < c
    · obtain ⟨⟨u, hc⟩, hf, hh'⟩ := hh.step (by omega)
      clear hw hb hh
      go_wp2
      go_roundw
      case rel => exact ⟨k + 1, by omega, by go_num, hh', hbel.setCell (Nat.le_refl _) _⟩
      case measure => simp [intOf]; omega
    · obtain rfl : k = c := by omega
      go_wp2
      go_ret2
      exact ⟨rfl, hh.tab h2, hbel⟩

/-- New, whatever the count: two ways. -/
theorem new_len (l : List Int) (n : Nat) (h : l.length = n) (f o : Int) : (setL l f o).length = n := by rw [setL_len, h]

end Go.Proofs.Ytamhnnkmjhapmaa
