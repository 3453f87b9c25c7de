/-
  Layer 3's law MemWords: it answers true for every input.
-/
import Derived.Test.YtfddmfdfimaddaaPhysStr
import Derived.Test.YtfddmfdfimaddaaPlain2
namespace Go.Proofs.Ytfddmfdfimaddaa
open Go.RowKit
set_option linter.unusedVariables false

/-- The bytes of words. -/
def wds (q : List Int) : List UInt8 := q.flatMap by4
theorem wds_len (q : List Int) : (wds q).length = 4 * q.length := by
  induction q with
  | nil => rfl
  | cons x q ih => simp only [wds, List.flatMap_cons, List.length_append, by4_len, List.length_cons] at ih ⊢; omega
theorem wds_cons (x : Int) (q : List Int) : wds (x :: q) = by4 x ++ wds q := rfl
theorem wds_drop (q : List Int) : ∀ k, (wds q).drop (4 * k) = wds (q.drop k) := by
  induction q with
  | nil => intro k; simp [wds]
  | cons x q ih =>
    intro k
    match k with
    | 0 => rfl
    | k + 1 =>
      rw [wds_cons, List.drop_succ_cons, ← ih k, show 4 * (k + 1) = (by4 x).length + 4 * k by rw [by4_len]; omega, List.drop_append]
      simp [by4_len]
theorem wds_take (q : List Int) : ∀ k, (wds q).take (4 * k) = wds (q.take k) := by
  induction q with
  | nil => intro k; simp [wds]
  | cons x q ih =>
    intro k
    match k with
    | 0 => rfl
    | k + 1 =>
      rw [wds_cons, List.take_succ_cons, wds_cons, ← ih k, show 4 * (k + 1) = (by4 x).length + 4 * k by rw [by4_len]; omega, List.take_length_add_append]
theorem wds_append (a b : List Int) : wds (a ++ b) = wds a ++ wds b := by simp [wds]
theorem wds_put (q : List Int) (k : Nat) (x : Int) (h : k < q.length) : put (wds q) (4 * k) (by4 x) = wds (q.set k x) := by
  unfold put
  rw [by4_len, show 4 * k + 4 = 4 * (k + 1) by omega, wds_take, wds_drop, List.set_eq_take_append_cons_drop, if_pos h, wds_append, wds_cons, List.append_assoc]
theorem wds_at (q : List Int) (k : Nat) (h : k < q.length) : ((wds q).drop (4 * k)).take 4 = by4 (q.getD k 0) := by
  rw [wds_drop, List.drop_eq_getElem_cons h, wds_cons, List.take_append_of_le_length (by rw [by4_len]; omega), List.take_of_length_le (by rw [by4_len]; omega)]
  simp [List.getD, List.getElem?_eq_getElem h]

theorem wds_pw (q : List Int) (k : Nat) (x : Int) (h : k < q.length) (h0 : 0 ≤ x) (h1 : x ≤ 4294967295) : pwL (wds q) (4 * (k : Int)) x = wds (q.set k x) ∧ errC (pwB (wds q).length (4 * (k : Int)) x) = 0 := by
  have hs : pwB (wds q).length (4 * (k : Int)) x = true := decide_eq_true (by rw [wds_len]; omega)
  constructor
  · unfold pwL
    rw [hs, if_pos rfl, ← wds_put q k x h, show (4 * (k : Int)).toNat = 4 * k by omega]
  · rw [hs]; rfl
theorem wds_rd (q : List Int) (k : Nat) (h : k < q.length) : rdL (wds q) (4 * (k : Int)) 4 = by4 (q.getD k 0) ∧ errC (mayB (4 * (k : Int)) 4 (wds q).length) = 0 := by
  have hs : mayB (4 * (k : Int)) 4 (wds q).length = true := decide_eq_true (by rw [wds_len]; omega)
  constructor
  · unfold rdL
    rw [hs, if_pos rfl, show (4 * (k : Int)).toNat = 4 * k by omega, show (4 : Int).toNat = 4 from rfl, wds_at q k h]
  · rw [hs]; rfl
theorem wds_wd (q : List Int) (k : Nat) (h : k < q.length) (hr : ∀ x ∈ q, 0 ≤ x ∧ x ≤ 4294967295) : wdN (wds q) (4 * (k : Int)) = q.getD k 0 ∧ errC (wdB (wds q).length (4 * (k : Int))) = 0 := by
  have hs : wdB (wds q).length (4 * (k : Int)) = true := decide_eq_true (by rw [wds_len]; omega)
  have hq := getD_range q 0 4294967295 hr k h
  constructor
  · unfold wdN
    rw [hs, if_pos rfl, show (4 * (k : Int)).toNat = 4 * k by omega, wds_at q k h, num_by _ hq.1 hq.2]
  · rw [hs]; rfl
theorem set_range (q : List Int) (k : Nat) (x lo hi : Int) (hr : ∀ x ∈ q, lo ≤ x ∧ x ≤ hi) (h : lo ≤ x ∧ x ≤ hi) : ∀ y ∈ q.set k x, lo ≤ y ∧ y ≤ hi := by
  intro y hy
  rcases List.mem_or_eq_of_mem_set hy with hy | rfl
  · exact hr y hy
  · exact h

theorem by4_cells (X : Int) (h0 : 0 ≤ X) (h1 : X ≤ 4294967295) : bts (by4 X) = [.int .u8 (X % 256), .int .u8 (X / 256 % 256), .int .u8 (X / 65536 % 256), .int .u8 (X / 16777216)] := by
  obtain ⟨X, rfl⟩ := Int.eq_ofNat_of_zero_le h0
  simp only [bts, by4, List.map_cons, List.map_nil, UInt8.toNat_ofNat']
  simp only [List.cons.injEq, Value.int.injEq, and_true, true_and]
  refine ⟨by omega, by omega, by omega, by omega⟩
theorem by4_str (X : Int) (h0 : 0 ≤ X) (h1 : X ≤ 4294967295) (W : World) : (convert 38 9 (.slice (some ⟨W.heap.size, 0, none⟩) 4 4)).run Try.prog (W.alloc (.cells #[.int .u8 (X % 256), .int .u8 (X / 256 % 256), .int .u8 (X / 65536 % 256), .int .u8 (X / 16777216)] 5)) = .ok (.string (str (by4 X))) (W.alloc (.cells #[.int .u8 (X % 256), .int .u8 (X / 256 % 256), .int .u8 (X / 65536 % 256), .int .u8 (X / 16777216)] 5)) := by
  have hb := Blk.new W 5 (bts (by4 X))
  have := conv_str (w := W.alloc (.cells (bts (by4 X)).toArray 5)) W.heap.size 0 4 (by4 X) (fun i hi => by rw [hb.cell, Nat.zero_add, bts_get _ i hi])
  rw [by4_len, by4_cells X h0 h1] at this
  exact this

end Go.Proofs.Ytfddmfdfimaddaa
