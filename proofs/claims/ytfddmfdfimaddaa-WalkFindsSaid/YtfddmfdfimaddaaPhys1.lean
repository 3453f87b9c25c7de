/-
  Contracts of package phys: New, Size, Read, Write, Zero.
-/
import Derived.Test.YtfddmfdfimaddaaPhys0
import Derived.Test.YtfddmfdfimaddaaMay
namespace Go.Proofs.Ytfddmfdfimaddaa
open Go.RowKit
set_option linter.unusedVariables false

theorem may_any (a n s : Int) (w : World) (h4 : s ≤ 9223372036854775807) :
    Calls Try.prog 23 #[.int .i64 a, .int .i64 n, .int .i64 s] w fun e w' => e = .returned (.bool (mayB a n s)) ∧ w = w' := by
  by_cases h : 0 ≤ a ∧ 0 ≤ n ∧ a ≤ s ∧ n ≤ s - a
  · rw [show mayB a n s = true from decide_eq_true h]
    exact may_yes a n s w h.1 h.2.1 h.2.2.1 h.2.2.2 h4
  · rw [show mayB a n s = false from decide_eq_false h]
    exact may_no a n s w h h4

theorem psize_any (g : Nat) (l : List UInt8) (w : World) (h : PM w g l) :
    Calls Try.prog 18 #[.pointer (some ⟨g, 0, none⟩)] w fun e w' => e = .returned (.int .i64 l.length) ∧ w = w' := by
  obtain ⟨m, h1, h2, h3, hc⟩ := h.size
  rw [h3]
  have h0 : (0 : Int) ≤ m := by omega
  have h2' : (m : Int) ≤ 64 := by omega
  clear h h3
  go_enter Try.func18, Try.ntmps18
  go_wp2
  go_ret
  exact ⟨by rw [show ((64 * m : Nat) : Int) = m * 64 by omega]; rfl, rfl⟩

theorem new_no (c : Int) (w : World) (h : ¬ (1 ≤ c ∧ c ≤ 64)) :
    Calls Try.prog 13 #[.int .i64 c] w fun e w' => e = .returned (.tuple #[.pointer none, .int .i64 300]) ∧ w = w' := by
  by_cases h1 : c < 1
  · clear h
    go_enter Try.func13, Try.ntmps13
    go_wp2
    go_ret2
    exact ⟨rfl, rfl⟩
  · have h2 : 64 < c := by omega
    clear h
    go_enter Try.func13, Try.ntmps13
    go_wp2
    go_ret2
    exact ⟨rfl, rfl⟩

/-- Bytes that are all 0. -/
def zeros (n : Nat) : List UInt8 := List.replicate n 0
theorem zeros_len (n : Nat) : (zeros n).length = n := by simp [zeros]

/-- The cells of a new memory: kept closed to the walk. -/
def zMem : Array Value := (Value.int .i64 0 :: List.replicate 4096 (Value.int .u8 0)).toArray
theorem zMem_ne : ¬ (zMem = #[]) := by
  intro h
  have := congrArg Array.size h
  simp only [zMem, List.size_toArray, List.length_cons, List.length_replicate] at this
  cases this
set_option maxRecDepth 100000 in
theorem zMem_run (w : World) : Sem.run Try.prog (zeroValue 63) w = .ok (.agg zMem) w := by
  have hi : (Try.prog.info? 63).map (fun i => i.zero) = some (some (.agg zMem)) := by kernel_rfl
  cases h : Try.prog.info? 63 with
  | none => rw [h] at hi; cases hi
  | some i =>
    rw [h] at hi
    simp only [Option.map_some, Option.some.injEq] at hi
    simp [zeroValue, typeInfo, h, hi]
theorem zMem_set (c : Int) (m : Nat) (h : m ≤ 4096) : zMem.setIfInBounds 0 (.int .i64 c) = (Value.int .i64 c :: (bts (zeros m) ++ List.replicate (4096 - m) (Value.int .u8 0))).toArray := by
  have e : bts (zeros m) ++ List.replicate (4096 - m) (Value.int .u8 0) = List.replicate 4096 (Value.int .u8 0) := by
    simp only [bts, zeros, List.map_replicate]
    rw [show ((0 : UInt8).toNat : Int) = 0 from rfl, List.replicate_append_replicate, show m + (4096 - m) = 4096 by omega]
  rw [e]
  unfold zMem
  rw [List.setIfInBounds_toArray, List.set_cons_zero]

theorem new_yes (c : Int) (w : World) (h1 : 1 ≤ c) (h2 : c ≤ 64) :
    Calls Try.prog 13 #[.int .i64 c] w fun e w' => e = .returned (.tuple #[.pointer (some ⟨w.heap.size, 0, none⟩), .int .i64 0]) ∧ PM w' w.heap.size (zeros (64 * c.toNat)) ∧ Below w.heap.size w w' := by
  obtain ⟨c, rfl⟩ := Int.eq_ofNat_of_zero_le (show 0 ≤ c by omega)
  have hz := zMem_run
  have hne := zMem_ne
  go_enter Try.func13, Try.ntmps13
  go_wp2
  go_ret2
  exact ⟨rfl, ⟨c, List.replicate (4096 - 64 * c) (Value.int .u8 0), by omega, by omega, by rw [zeros_len]; rfl, by simp, by rw [zMem_set _ (64 * c) (by omega)]; exact Blk.new _ _ _⟩, (Below.refl _ _).alloc (Nat.le_refl _) _⟩

theorem pread_any (g : Nat) (l : List UInt8) (a n : Int) (w : World) (h : PM w g l) :
    Calls Try.prog 12 #[.pointer (some ⟨g, 0, none⟩), .int .i64 a, .int .i64 n] w fun e w' => e = .returned (.tuple #[.string (str (rdL l a n)), .int .i64 (errC (mayB a n l.length))]) ∧ w = w' := by
  obtain ⟨m, h1, h2, h3, hc⟩ := h.size
  have hl : l.length ≤ 4096 := by omega
  clear hc
  by_cases hm : 0 ≤ a ∧ 0 ≤ n ∧ a ≤ l.length ∧ n ≤ l.length - a
  · have hb : mayB a n l.length = true := decide_eq_true hm
    have HC : Hid (errC (mayB a n l.length) = 0) := Lib.hid (by rw [hb]; rfl)
    obtain ⟨hm1, hm2, hm3, hm4⟩ := hm
    obtain ⟨a, rfl⟩ := Int.eq_ofNat_of_zero_le hm1
    obtain ⟨n, rfl⟩ := Int.eq_ofNat_of_zero_le hm2
    have HL : Hid (rdL l a n = (l.drop a).take n) := Lib.hid (by unfold rdL; rw [hb]; rfl)
    obtain ⟨o, hs, hv⟩ := h.read a n (by omega)
    have HB := Lib.hid hb; have H := Lib.hid h
    generalize hX : str ((l.drop a).take n) = X at hv
    have HX := Lib.hid hX; clear hX
    clear hb h h1 h2 h3
    go_enter Try.func12, Try.ntmps12
    go_wp2_with fail
    refine (psize_any g l _ H.out).mono ?_
    rintro e w' ⟨rfl, rfl⟩
    go_wp2_with fail
    refine (may_any _ _ _ _ (by omega)).mono ?_
    rintro e w' ⟨rfl, rfl⟩
    rw [HB.out]
    go_wp2_with fail
    go_ret2
    exact ⟨by rw [HC.out, HL.out, HX.out]; rfl, rfl⟩
  · have hb : mayB a n l.length = false := decide_eq_false hm
    have HC : Hid (errC (mayB a n l.length) = 300) := Lib.hid (by rw [hb]; rfl)
    have HL : Hid (rdL l a n = []) := Lib.hid (by unfold rdL; rw [hb]; rfl)
    have HB := Lib.hid hb; have H := Lib.hid h
    clear hb h hm h1 h2 h3
    go_enter Try.func12, Try.ntmps12
    go_wp2_with fail
    refine (psize_any g l _ H.out).mono ?_
    rintro e w' ⟨rfl, rfl⟩
    go_wp2_with fail
    refine (may_any _ _ _ _ (by omega)).mono ?_
    rintro e w' ⟨rfl, rfl⟩
    rw [HB.out]
    go_wp2_with fail
    go_ret2
    exact ⟨by rw [HC.out, HL.out]; rfl, rfl⟩

theorem pwrite_any (g : Nat) (l : List UInt8) (a : Int) (s : ByteArray) (w : World) (h : PM w g l) (hs : s.size ≤ maxLen) :
    Calls Try.prog 25 #[.pointer (some ⟨g, 0, none⟩), .int .i64 a, .string s] w fun e w' => e = .returned (.int .i64 (errC (mayB a s.size l.length))) ∧ PM w' g (wrL l a s.data.toList) ∧ w.grownBy w' (some g) := by
  obtain ⟨m, h1, h2, h3, hc⟩ := h.size
  have hl : l.length ≤ 4096 := by omega
  unfold maxLen at hs
  clear hc
  by_cases hm : 0 ≤ a ∧ 0 ≤ (s.size : Int) ∧ a ≤ l.length ∧ s.size ≤ l.length - a
  · have hb : mayB a s.size l.length = true := decide_eq_true hm
    have HC : Hid (errC (mayB a s.size l.length) = 0) := Lib.hid (by rw [hb]; rfl)
    have HL : Hid (wrL l a s.data.toList = put l a.toNat s.data.toList) := Lib.hid (by unfold wrL; rw [list_len, hb]; rfl)
    obtain ⟨hm1, hm2, hm3, hm4⟩ := hm
    obtain ⟨a, rfl⟩ := Int.eq_ofNat_of_zero_le hm1
    rw [Int.toNat_natCast] at HL
    have hw := h.write a s (by omega)
    have HB := Lib.hid hb; have H := Lib.hid h; have HW := Lib.hid hw
    clear hb h h1 h2 h3 hw
    go_enter Try.func25, Try.ntmps25
    go_wp2_with fail
    refine (psize_any g l _ H.out).mono ?_
    rintro e w' ⟨rfl, rfl⟩
    go_wp2_with fail
    refine (may_any _ _ _ _ (by omega)).mono ?_
    rintro e w' ⟨rfl, rfl⟩
    rw [HB.out]
    obtain ⟨o, w1, hs1, hs2, hp, hg⟩ := HW.out
    have HP := Lib.hid hp; have HG := Lib.hid hg; clear hp hg
    go_wp2_with fail
    go_ret
    exact ⟨by rw [HC.out]; rfl, by rw [HL.out]; exact HP.out, HG.out⟩
  · have hb : mayB a s.size l.length = false := decide_eq_false hm
    have HC : Hid (errC (mayB a s.size l.length) = 300) := Lib.hid (by rw [hb]; rfl)
    have HL : Hid (wrL l a s.data.toList = l) := Lib.hid (by unfold wrL; rw [list_len, hb]; rfl)
    have HB := Lib.hid hb; have H := Lib.hid h
    clear hb h hm h1 h2 h3
    go_enter Try.func25, Try.ntmps25
    go_wp2_with fail
    refine (psize_any g l _ H.out).mono ?_
    rintro e w' ⟨rfl, rfl⟩
    go_wp2_with fail
    refine (may_any _ _ _ _ (by omega)).mono ?_
    rintro e w' ⟨rfl, rfl⟩
    rw [HB.out]
    go_wp2_with fail
    go_ret
    exact ⟨by rw [HC.out]; rfl, by rw [HL.out]; exact H.out, grefl _ _⟩

end Go.Proofs.Ytfddmfdfimaddaa
