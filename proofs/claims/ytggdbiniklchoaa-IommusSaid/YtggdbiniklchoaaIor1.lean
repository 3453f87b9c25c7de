/-
  Contracts of the document's Iommu: has, there, leaf.
-/
import Derived.Test.YtggdbiniklchoaaIow
import Derived.Test.YtggdbiniklchoaaIoAll
import Derived.Test.YtggdbiniklchoaaWalkAll
import Derived.Test.YtggdbiniklchoaaPlain2
import Derived.Deep.RegionWith
import Derived.Deep.CutBlock
import Derived.Deep.DeepCutAuto
namespace Go.Proofs.Ytggdbiniklchoaa
open Go.RowKit
set_option linter.unusedVariables false
set_option maxRecDepth 100000

theorem has_any (u : Value) (n : Nat) (fs : List Int) (f : Int) (w : World) (h : Sl w u n 1 (ints fs)) (hn : n ≤ 65536) :
    Calls Try.prog 29 #[u, .int .i64 f] w fun e w' => e = .returned (.bool (fs.contains f)) ∧ w = w' := by
  obtain ⟨A, cap, rfl, hc, hl, hA⟩ := h
  rw [ints_len, Nat.mul_one] at hl
  obtain ⟨hb, hhb⟩ : ∃ hb, fs.contains f = hb := ⟨_, rfl⟩
  rw [hhb]
  have HA := Lib.hid hA; have HL := Lib.hid hl; have HHB := Lib.hid hhb
  clear hA hl hhb
  go_enter Try.func29, Try.ntmps29
  go_wp2_with fail
  go_loop [5] (fun i => ∃ (k : Nat), k ≤ n ∧ i = .int .i64 k ∧ Hid ((fs.take k).contains f = false)) (fun i => n - (intOf i).toNat)
  case atStart => exact ⟨0, by omega, rfl, Lib.hid (by simp)⟩
  case round =>
    obtain ⟨k, hk, rfl, HK⟩ := hrel
    by_cases hlt : k < n
    · obtain ⟨b, o, rfl, hb, hcell⟩ := HA.out (by omega)
      have hc1 := hcell k _ (ints_get fs k (by rw [HL.out]; exact hlt))
      have hst : (fs.take (k + 1)).contains f = ((fs.take k).contains f || (f == fs.getD k 0)) := by
        rw [List.take_add_one, List.getElem?_eq_getElem (by rw [HL.out]; exact hlt), List.getD, List.getElem?_eq_getElem (by rw [HL.out]; exact hlt), Option.toList_some, Option.getD_some]
        rw [Bool.eq_iff_iff, List.contains_iff_mem, Bool.or_eq_true, List.contains_iff_mem, beq_iff_eq, List.mem_append, List.mem_singleton]
      rw [HK.out, Bool.false_or] at hst
      have hmem : fs.getD k 0 ∈ fs := by rw [List.getD, List.getElem?_eq_getElem (by rw [HL.out]; exact hlt)]; exact List.getElem_mem _
      have HST := Lib.hid hst; have HM := Lib.hid hmem
      generalize fs.getD k 0 = F at *
      clear hcell hst hmem
      by_cases hF : F = f
      · subst hF
        have HY : Hid (fs.contains F = true) := Lib.hid (List.contains_iff_mem.2 HM.out)
        clear HST HM
        go_wp2_with fail
        go_ret
        exact ⟨by rw [← HHB.out, HY.out]; rfl, rfl⟩
      · have h1 : (F == f) = false := by simpa using hF
        have h2 : (f == F) = false := by simpa using fun e => hF e.symm
        have HY := HST.out
        rw [h2] at HY
        have HZ := Lib.hid HY
        clear HST HY HM h2 HK
        go_wp2_with fail
        go_round
        case rel => exact ⟨k + 1, by omega, by go_num, HZ⟩
        case measure => simp [intOf]; omega
    · have HZ := HK.out
      rw [List.take_of_length_le (by rw [HL.out]; omega)] at HZ
      have HY := Lib.hid HZ
      clear HZ HK
      go_wp2_with fail
      go_ret
      exact ⟨by rw [← HHB.out, HY.out]; rfl, rfl⟩

/-- The document's Iommu: block y holds the memory's address r and the pools v. -/
structure Rx (B : Nat) (w : World) (y r b : Nat) (v : Value) (ps : List (List Int)) (l : List UInt8) : Prop where
  sx : Blk w y 76 [.pointer (some ⟨r, 0, none⟩), v]
  pl : PL w B v ps
  rm : RM w r b l
  n1 : 1 ≤ ps.length
  n4 : ps.length ≤ 4
  lens : ∀ p ∈ ps, 2 ≤ p.length ∧ p.length ≤ 5
  inr : ∀ p ∈ ps, ∀ f ∈ p, 0 ≤ f ∧ f < frs l
section
variable {B : Nat} {w w' : World} {y r b : Nat} {v : Value} {ps : List (List Int)} {l : List UInt8}
theorem RM.drewN' (h : RM w r b l) (k : Nat) : RM (w.drewN k) r b l := ⟨h.1, h.2.1, h.2.2.1.drewN k, h.2.2.2.drewN k⟩
theorem RM.below' (h : RM w r b l) {N : Nat} (hb : Below N w w') (hN : w.heap.size ≤ N) : RM w' r b l := ⟨h.1, h.2.1, h.2.2.1.below hb (Nat.lt_of_lt_of_le h.2.2.1.lt hN), h.2.2.2.below hb (Nat.lt_of_lt_of_le h.2.2.2.lt hN)⟩
theorem RM.alloc' (h : RM w r b l) (o : Obj) : RM (w.alloc o) r b l := ⟨h.1, h.2.1, h.2.2.1.alloc o, h.2.2.2.alloc o⟩
theorem Rx.drewN (h : Rx B w y r b v ps l) (k : Nat) : Rx B (w.drewN k) y r b v ps l := ⟨h.sx.drewN k, h.pl.drewN k, h.rm.drewN' k, h.n1, h.n4, h.lens, h.inr⟩
theorem Rx.below (h : Rx B w y r b v ps l) {N : Nat} (hb : Below N w w') (hN : w.heap.size ≤ N) : Rx B w' y r b v ps l :=
  ⟨h.sx.below hb (Nat.lt_of_lt_of_le h.sx.lt hN), h.pl.below hb hN, h.rm.below' hb hN, h.n1, h.n4, h.lens, h.inr⟩
theorem Rx.alloc (h : Rx B w y r b v ps l) (o : Obj) : Rx B (w.alloc o) y r b v ps l := ⟨h.sx.alloc o, h.pl.alloc o, h.rm.alloc' o, h.n1, h.n4, h.lens, h.inr⟩
theorem Rx.pool (h : Rx B w y r b v ps l) {d : Int} (h0 : 0 ≤ d) (h1 : d < ps.length) : ioPool ps d ∈ ps ∧ 2 ≤ (ioPool ps d).length ∧ (ioPool ps d).length ≤ 5 ∧ 0 ≤ ioRoot ps d ∧ ioRoot ps d < frs l := by
  have hm : ioPool ps d ∈ ps := by
    unfold ioPool
    have : d.toNat < ps.length := by omega
    rw [List.getD, List.getElem?_eq_getElem this]
    exact List.getElem_mem this
  have hl := h.lens _ hm
  have hr := h.inr _ hm (ioRoot ps d) (by
    unfold ioRoot
    have : 0 < (ioPool ps d).length := by omega
    rw [List.getD, List.getElem?_eq_getElem this]
    exact List.getElem_mem this)
  exact ⟨hm, hl.1, hl.2, hr.1, hr.2⟩
theorem Rx.cells (h : Rx B w y r b v ps l) : w.cell? ⟨y, 0, none⟩ = some (.pointer (some ⟨r, 0, none⟩)) ∧ w.cell? ⟨y, 1, none⟩ = some v := ⟨by rw [h.sx.cell]; rfl, by rw [h.sx.cell]; rfl⟩
end

section
variable {B : Nat} {y r b : Nat} {v : Value} {ps : List (List Int)} {l : List UInt8}
theorem there_any (d p : Int) (w : World) (h : Rx B w y r b v ps l) :
    Calls Try.prog 50 #[.pointer (some ⟨y, 0, none⟩), .int .i64 d, .int .i64 p] w fun e w' => e = .returned (.bool (thB ps.length d p)) ∧ w = w' := by
  obtain ⟨_, c1⟩ := h.cells
  obtain ⟨b0, cap, rfl, _, _, _⟩ := h.pl.slice h.n1
  clear h
  unfold thB
  by_cases h0 : 0 ≤ d
  · by_cases h1 : d < ps.length
    · by_cases h2 : 0 ≤ p
      · by_cases h3 : p < 256
        · rw [decide_eq_true (by omega)]
          go_enter Try.func50, Try.ntmps50
          go_wp2
          go_ret
          exact ⟨rfl, rfl⟩
        · rw [decide_eq_false (by omega)]
          have h3' : decide (p < 256) = false := decide_eq_false h3
          go_enter Try.func50, Try.ntmps50
          go_wp2
          go_ret
          exact ⟨rfl, rfl⟩
      · rw [decide_eq_false (by omega)]
        have h2' : decide (0 ≤ p) = false := decide_eq_false h2
        go_enter Try.func50, Try.ntmps50
        go_wp2
        go_ret
        exact ⟨rfl, rfl⟩
    · rw [decide_eq_false (by omega)]
      have h1' : decide (d < (ps.length : Int)) = false := decide_eq_false h1
      go_enter Try.func50, Try.ntmps50
      go_wp2
      go_ret
      exact ⟨rfl, rfl⟩
  · rw [decide_eq_false (by omega)]
    have h0' : decide (0 ≤ d) = false := decide_eq_false h0
    go_enter Try.func50, Try.ntmps50
    go_wp2
    go_ret
    exact ⟨rfl, rfl⟩
end

end Go.Proofs.Ytggdbiniklchoaa
