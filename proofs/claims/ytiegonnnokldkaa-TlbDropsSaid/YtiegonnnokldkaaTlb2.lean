/-
  Contracts of package tlb: what Delete and DeleteFunc make of the row.
-/
import Derived.Test.YtiegonnnokldkaaTlb1
import Derived.StillTailTactics
namespace Go.Proofs.Ytiegonnnokldkaa
open Go.RowKit
set_option linter.unusedVariables false

theorem infoLine : (Try.prog.info? 51).map (fun i => (i.zero, i.size, i.bytes)) = some (some (.agg #[.int .i64 0, .int .i64 0, .int .i64 0, .int .i64 0]), 4, 32) := by kernel_rfl

/-- The lines from the k-th on. -/
theorem sl_from (w : World) (g o len cap k : Nat) (hk : k < cap) (hl : k ≤ len) : (Instr.slice 59 (.slice (some ⟨g, o, none⟩) len cap) (some (.int .i64 (k : Int))) none none).run Try.prog w = .ok (.slice (some ⟨g, o + k * 4, none⟩) (len - k) (cap - k)) w := by
  obtain ⟨i0, hi, _, hz1, _⟩ := info_parts infoLine
  have he : Try.prog.elem 59 = 51 := by kernel_rfl
  have hz : (Go.sizeOf 51).run Try.prog w = .ok 4 w := by simp [Go.sizeOf, typeInfo, hi, hz1]
  rw [run_slice_l w 59 (some ⟨g, o, none⟩) len cap (by rw [he]; exact Try.underlying59) .i64 _ (by omega) (by omega), he, hz]
  have : ¬ (cap = k) := by omega
  simp [Result.andThen, sliced, this, add_none]

/-- 'append' of lines to none, where there is room: within a block. -/
theorem run_append_at (w : World) (ty : TypeId) (g o sCap m c : Nat) (a : Addr) (cur news : List Value) (t : TypeId) (h : Blk w g t cur) (hl : news.length = m * 4) (hnews : ∀ j u, news[j]? = some u → w.cell? (a.add j) = some u)
    (h1 : ∀ u ∈ news, u.oneCell' = true) (hroom : m ≤ sCap) (hfit : o + news.length ≤ cur.length) :
    (Builtin.append_ #[59, 59] ty #[.slice (some ⟨g, o, none⟩) 0 sCap, .slice (some a) m c]).run Try.prog w = .ok (.slice (some ⟨g, o, none⟩) m sCap) (w.setRow g (cur.take o ++ news ++ cur.drop (o + news.length)).toArray) := by
  obtain ⟨i, hi, hz0, hz1, hz2⟩ := info_parts infoLine
  have hf := run_firstCells_some (P := Try.prog) w i.size m a m c news (by rw [hz1]; exact hl) hnews
  have hst := run_storeCells_at Try.prog g o t news 0 cur.toArray w h (by simpa using hfit) h1
  simp only [Nat.add_zero] at hst
  simp [Builtin.append_, run_underlying Try.underlying59, sizeOf, typeInfo, hi, Builtin.lenOf, hroom, hf, add_none, hst]

/-- 'clear' of lines within a block. -/
theorem run_clear_at (w : World) (ty : TypeId) (g o n c : Nat) (cur : List Value) (t : TypeId) (h : Blk w g t cur) (hn : 0 < n) (hfit : o + n * 4 ≤ cur.length) :
    (Builtin.clear_ #[59] ty #[.slice (some ⟨g, o, none⟩) n c]).run Try.prog w = .ok (.tuple #[]) (w.setRow g (cur.take o ++ ints (List.replicate (n * 4) 0) ++ cur.drop (o + n * 4)).toArray) := by
  obtain ⟨i0, hi, hz0, _, _⟩ := info_parts infoLine
  have hst := run_storeCells_at Try.prog g o t (ints (List.replicate (n * 4) 0)) 0 cur.toArray w h (by simpa [ints_len] using hfit) (by
    intro v hv
    simp only [ints, List.map_replicate] at hv
    rw [List.eq_of_mem_replicate hv]; rfl)
  simp only [Nat.add_zero, ints_len, List.length_replicate] at hst
  have hzc : (Builtin.zeroCells (Value.agg #[.int .i64 0, .int .i64 0, .int .i64 0, .int .i64 0]).cells n).toList = ints (List.replicate (n * 4) 0) := by
    simp [Builtin.zeroCells, Value.cells, ints]
    apply List.ext_getElem
    · simp
    · intro i h1 h2
      simp only [List.getElem_map, List.getElem_range, List.getElem_replicate]
      have h4 : i % 4 < 4 := Nat.mod_lt _ (by omega)
      generalize i % 4 = q at h4
      match q, h4 with
      | 0, _ => rfl
      | 1, _ => rfl
      | 2, _ => rfl
      | 3, _ => rfl
  obtain ⟨m, rfl⟩ : ∃ m, n = m + 1 := ⟨n - 1, by omega⟩
  simp [Builtin.clear_, run_underlying Try.underlying59, zeroValue, typeInfo, hi, hz0, hzc, hst]

theorem ints_one (l : List Int) : ∀ u ∈ ints l, u.oneCell' = true := by
  intro u hu
  obtain ⟨x, _, rfl⟩ := List.mem_map.1 hu
  rfl

/-- What lies behind the first k lines. -/
theorem lns_drop (l : List Ln) (z : List Int) (k : Nat) (h : k ≤ l.length) : (lns l ++ z).drop (k * 4) = lns (l.drop k) ++ z := by
  have e : lns l = lns (l.take k) ++ lns (l.drop k) := by rw [← lns_append, List.take_append_drop]
  have hl : (lns (l.take k)).length = k * 4 := by rw [lns_len, List.length_take, Nat.min_eq_left h]
  rw [e, List.append_assoc, ← hl, List.drop_left]
theorem lns_take (l : List Ln) (z : List Int) (k : Nat) (h : k ≤ l.length) : (lns l ++ z).take (k * 4) = lns (l.take k) := by
  have e : lns l = lns (l.take k) ++ lns (l.drop k) := by rw [← lns_append, List.take_append_drop]
  have hl : (lns (l.take k)).length = k * 4 := by rw [lns_len, List.length_take, Nat.min_eq_left h]
  rw [e, List.append_assoc, ← hl, List.take_left]

section
variable {w w' : World} {g c n : Nat} {l : List Ln}
/-- A line written into its place. -/
theorem PT.put4 (h : PT w g c n l) (i : Nat) (hi : i < l.length) (x : Ln) : PT ((((w.setCell ⟨g, 2 + i * 4, none⟩ (.int .i64 x.d)).setCell ⟨g, 2 + i * 4 + 1, none⟩ (.int .i64 x.p)).setCell ⟨g, 2 + i * 4 + 2, none⟩ (.int .i64 x.f)).setCell ⟨g, 2 + i * 4 + 3, none⟩ (.int .i64 x.m)) g c n (l.set i x) := by
  obtain ⟨z, hz, hb⟩ := h
  have h4 := (((hb.setInt (2 + i * 4) x.d).setInt (2 + i * 4 + 1) x.p).setInt (2 + i * 4 + 2) x.f).setInt (2 + i * 4 + 3) x.m
  refine ⟨z, by rw [List.length_set]; exact hz, ?_⟩
  rw [show 2 + i * 4 + 3 = (i * 4 + 3) + 1 + 1 by omega, show 2 + i * 4 + 2 = (i * 4 + 2) + 1 + 1 by omega, show 2 + i * 4 + 1 = (i * 4 + 1) + 1 + 1 by omega, show 2 + i * 4 = i * 4 + 1 + 1 by omega] at h4 ⊢
  simp only [List.set_cons_succ] at h4
  rw [lns_set l z i hi x] at h4
  exact h4
/-- .. behind the last. -/
theorem PT.put4_end (h : PT w g c n l) (hl : l.length ≤ 16) (x : Ln) : PT ((((w.setCell ⟨g, 2 + l.length * 4, none⟩ (.int .i64 x.d)).setCell ⟨g, 2 + l.length * 4 + 1, none⟩ (.int .i64 x.p)).setCell ⟨g, 2 + l.length * 4 + 2, none⟩ (.int .i64 x.f)).setCell ⟨g, 2 + l.length * 4 + 3, none⟩ (.int .i64 x.m)) g c n (l ++ [x]) := by
  obtain ⟨z, hz, hb⟩ := h
  have h4 := (((hb.setInt (2 + l.length * 4) x.d).setInt (2 + l.length * 4 + 1) x.p).setInt (2 + l.length * 4 + 2) x.f).setInt (2 + l.length * 4 + 3) x.m
  refine ⟨z.drop 4, by simp; omega, ?_⟩
  generalize hk : l.length * 4 = k at *
  rw [show 2 + k + 3 = (k + 3) + 1 + 1 by omega, show 2 + k + 2 = (k + 2) + 1 + 1 by omega, show 2 + k + 1 = (k + 1) + 1 + 1 by omega, show 2 + k = k + 1 + 1 by omega] at h4 ⊢
  simp only [List.set_cons_succ] at h4
  subst hk
  rw [lns_put l z x (by omega)] at h4
  exact h4
/-- An entry's two numbers written into its place. -/
theorem PT.put2 (h : PT w g c n l) (i : Nat) (hi : i < l.length) (f m : Int) : PT ((w.setCell ⟨g, 2 + i * 4 + 2, none⟩ (.int .i64 f)).setCell ⟨g, 2 + i * 4 + 3, none⟩ (.int .i64 m)) g c n (l.set i ⟨l[i].d, l[i].p, f, m⟩) := by
  obtain ⟨z, hz, hb⟩ := h
  have h4 := (hb.setInt (2 + i * 4 + 2) f).setInt (2 + i * 4 + 3) m
  refine ⟨z, by rw [List.length_set]; exact hz, ?_⟩
  rw [show 2 + i * 4 + 3 = (i * 4 + 3) + 1 + 1 by omega, show 2 + i * 4 + 2 = (i * 4 + 2) + 1 + 1 by omega] at h4 ⊢
  simp only [List.set_cons_succ] at h4
  rw [lns_set2 l z i hi f m] at h4
  exact h4
/-- The count written. -/
theorem PT.count_ (h : PT w g c n l) (k : Nat) : PT (w.setCell ⟨g, 1, none⟩ (.int .i64 k)) g c k l := by
  obtain ⟨z, hz, hb⟩ := h
  exact ⟨z, hz, hb.setInt 1 k⟩
/-- The cells behind the last line may be written. -/
theorem PT.room (h : PT w g c n l) (hl : l.length ≤ 16) (j : Nat) (hj : j < 4) : ∃ u, w.cell? ⟨g, 2 + l.length * 4 + j, none⟩ = some u := by
  obtain ⟨z, hz, hb⟩ := h
  have : 2 + l.length * 4 + j < (ints ((c : Int) :: (n : Int) :: (lns l ++ z))).length := by rw [ints_len]; simp only [List.length_cons, List.length_append, lns_len]; omega
  exact ⟨_, by rw [hb.cell]; exact List.getElem?_eq_getElem this⟩
/-- The lines behind the first k, cleared: only those in front are known. -/
theorem PT.cleared (h : PT w g c n l) (k : Nat) (hk : k < l.length) : ∃ w1, (∀ ty cap, (Builtin.clear_ #[59] ty #[.slice (some ⟨g, 2 + k * 4, none⟩) (l.length - k) cap]).run Try.prog w = .ok (.tuple #[]) w1) ∧ PT w1 g c n (l.take k) ∧ w.grownBy w1 (some g) := by
  obtain ⟨z, hz, hb⟩ := h
  have hlen : (ints ((c : Int) :: (n : Int) :: (lns l ++ z))).length = 70 := by rw [ints_len]; simp only [List.length_cons, List.length_append, lns_len]; omega
  refine ⟨_, fun ty cap => run_clear_at w ty g (2 + k * 4) (l.length - k) cap _ _ hb (by omega) (by rw [hlen]; omega), ?_, grown_setRow _ _ _⟩
  have e : (ints ((c : Int) :: (n : Int) :: (lns l ++ z))).take (2 + k * 4) ++ ints (List.replicate ((l.length - k) * 4) 0) ++ (ints ((c : Int) :: (n : Int) :: (lns l ++ z))).drop (2 + k * 4 + (l.length - k) * 4) =
      ints ((c : Int) :: (n : Int) :: (lns (l.take k) ++ (List.replicate ((l.length - k) * 4) 0 ++ z))) := by
    rw [show 2 + k * 4 + (l.length - k) * 4 = l.length * 4 + 1 + 1 by omega, show 2 + k * 4 = k * 4 + 1 + 1 by omega]
    simp only [ints, List.map_cons, List.take_succ_cons, List.drop_succ_cons, ← List.map_take, ← List.map_drop]
    rw [lns_take l z k (by omega), lns_drop l z l.length (Nat.le_refl _)]
    simp [lns_nil]
  rw [e]
  refine ⟨_, ?_, hb.row _⟩
  rw [List.length_append, List.length_replicate, List.length_take]
  omega
/-- The lines behind the first one, copied to the front. -/
theorem PT.shifted {x : Ln} (h : PT w g c n (x :: l)) (hl : 0 < l.length) : ∃ w1, (∀ ty cap, (Builtin.append_ #[59, 59] ty #[.slice (some ⟨g, 2, none⟩) 0 17, .slice (some ⟨g, 6, none⟩) l.length cap]).run Try.prog w = .ok (.slice (some ⟨g, 2, none⟩) l.length 17) w1) ∧ (∃ y, PT w1 g c n (l ++ [y])) ∧ w.grownBy w1 (some g) := by
  have hlen17 := h.len
  obtain ⟨z, hz, hb⟩ := h
  simp only [List.length_cons] at hz hlen17
  have hlen : (ints ((c : Int) :: (n : Int) :: (lns (x :: l) ++ z))).length = 70 := by rw [ints_len]; simp only [List.length_cons, List.length_append, lns_len]; omega
  have hnl : (ints (lns l)).length = l.length * 4 := by rw [ints_len, lns_len]
  refine ⟨_, fun ty cap => run_append_at w ty g 2 17 l.length cap ⟨g, 6, none⟩ _ (ints (lns l)) _ hb hnl (fun j u hu => ?_) (ints_one _) (by omega) (by rw [hlen, hnl]; omega), ?_, grown_setRow _ _ _⟩
  · rw [add_none, hb.cell]
    have hj : j < (lns l).length := by have := (List.getElem?_eq_some_iff.1 hu).1; rwa [ints_len] at this
    rw [lns_cons]
    simp only [ints, List.map_cons, List.cons_append, show 6 + j = j + 1 + 1 + 1 + 1 + 1 + 1 by omega, List.getElem?_cons_succ, List.map_append]
    rw [List.getElem?_append_left (by rw [List.length_map]; exact hj)]
    exact hu
  · obtain ⟨l0, y, rfl⟩ : ∃ l0 y, l = l0 ++ [y] := by
      rcases List.eq_nil_or_concat l with rfl | ⟨a, b, h⟩
      · simp at hl
      · exact ⟨a, b, by simpa using h⟩
    refine ⟨y, ?_⟩
    have e : (ints ((c : Int) :: (n : Int) :: (lns (x :: (l0 ++ [y])) ++ z))).take 2 ++ ints (lns (l0 ++ [y])) ++ (ints ((c : Int) :: (n : Int) :: (lns (x :: (l0 ++ [y])) ++ z))).drop (2 + (ints (lns (l0 ++ [y]))).length) =
        ints ((c : Int) :: (n : Int) :: (lns (l0 ++ [y] ++ [y]) ++ z)) := by
      rw [hnl, Nat.add_comm 2]
      simp only [ints, List.map_cons, List.take_succ_cons, List.drop_succ_cons, List.take_zero, ← List.map_drop]
      rw [lns_drop _ z (l0 ++ [y]).length (by simp)]
      have e2 : (x :: (l0 ++ [y])).drop (l0 ++ [y]).length = [y] := by
        rw [List.length_append, List.length_singleton, List.drop_succ_cons, List.drop_left]
      rw [e2, lns_append (l0 ++ [y])]
      simp
    rw [e]
    refine ⟨z, ?_, hb.row _⟩
    simp at hz ⊢
    omega
end

end Go.Proofs.Ytiegonnnokldkaa
