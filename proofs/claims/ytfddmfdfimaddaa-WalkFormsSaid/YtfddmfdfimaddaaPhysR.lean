/-
  Contracts of the document's memory: NewMem, Frames, Read, Write, Zero, Word, PutWord.
-/
import Derived.Test.YtfddmfdfimaddaaPhys2
import Derived.StillTailTactics
import Derived.Laws.OwnMore
import Derived.IntWalk
namespace Go.Proofs.Ytfddmfdfimaddaa
open Go.RowKit
set_option linter.unusedVariables false

theorem rmay_any (a n s : Int) (w : World) (h4 : s ≤ 9223372036854775807) :
    Calls Try.prog 27 #[.int .i64 a, .int .i64 n, .int .i64 s] w fun e w' => e = .returned (.bool (mayB a n s)) ∧ w = w' := by
  by_cases h : 0 ≤ a ∧ 0 ≤ n ∧ a ≤ s ∧ n ≤ s - a
  · rw [show mayB a n s = true from decide_eq_true h]
    exact rmay_yes a n s w h.1 h.2.1 h.2.2.1 h.2.2.2 h4
  · rw [show mayB a n s = false from decide_eq_false h]
    exact rmay_no a n s w h h4

/-- 'make([]byte, n)'. -/
theorem make_u8 (w : World) (n : Nat) (hn : n ≤ 65536) : (Instr.makeSlice 38 (.int .i64 (n : Int)) (.int .i64 (n : Int))).run Try.prog w = .ok (.slice (some ⟨w.heap.size, 0, none⟩) n n) (w.alloc (.cells (bts (zeros n)).toArray 5)) := by
  have hi : (Try.prog.info? 5).map (fun i => (i.zero, i.size, i.bytes)) = some (some (.int .u8 0), 1, 1) := by kernel_rfl
  obtain ⟨i0, hi, hz0, hz1, hz2⟩ := info_parts hi
  have := run_makeSlice (P := Try.prog) w 38 5 i0 (.int .u8 0) Try.underlying38 hi hz0 .i64 .i64 n n (by omega) (by omega) (by rw [hz1]; omega) (by rw [hz2]; omega) (by omega)
  rw [this, Int.toNat_natCast, hz1, Nat.mul_one]
  have e : madeCells (Value.int .u8 0).cells n = (bts (zeros n)).toArray := by
    apply Array.toList_inj.1
    apply List.ext_getElem
    · simp [madeCells, bts, zeros]
    · intro i h1 h2
      simp [madeCells, bts, zeros, Value.cells, Nat.mod_one]
  rw [e]

/-- 's[a:a+n]' of a slice of bytes that is all of its row. -/
theorem sl_lh (w : World) (b len a n : Nat) (hn : a + n ≤ len) (hl : len ≤ 65536) : ∃ o, (n = 0 ∨ o = a) ∧ (Instr.slice 38 (.slice (some ⟨b, 0, none⟩) len len) (some (.int .i64 (a : Int))) (some (.int .i64 ((a : Int) + n))) none).run Try.prog w = .ok (.slice (some ⟨b, o, none⟩) n (len - a)) w := by
  have ht := Try.underlying38
  have he : Try.prog.elem 38 = 5 := by kernel_rfl
  have hz : (Go.sizeOf 5).run Try.prog w = .ok 1 w := by
    have hi : (Try.prog.info? 5).map (fun i => (i.zero, i.size, i.bytes)) = some (some (.int .u8 0), 1, 1) := by kernel_rfl
    obtain ⟨i0, hi, _, hz1, _⟩ := info_parts hi
    simp [Go.sizeOf, typeInfo, hi, hz1]
  rw [run_slice_lh w 38 _ _ _ (by rw [he]; exact ht) .i64 .i64 _ _ (by omega) (by omega) (by omega), he, hz]
  by_cases h : len = a
  · exact ⟨0, .inl (by omega), by simp [Result.andThen, sliced, h]; omega⟩
  · exact ⟨a, .inr rfl, by simp [Result.andThen, sliced, h, add_none]; omega⟩

theorem RM.read {w : World} {r b : Nat} {l : List UInt8} (h : RM w r b l) (a n : Nat) (hn : a + n ≤ l.length) : ∃ o, (Instr.slice 38 (.slice (some ⟨b, 0, none⟩) l.length l.length) (some (.int .i64 (a : Int))) (some (.int .i64 ((a : Int) + n))) none).run Try.prog w = .ok (.slice (some ⟨b, o, none⟩) n (l.length - a)) w ∧
    (convert 38 9 (.slice (some ⟨b, o, none⟩) n (l.length - a))).run Try.prog w = .ok (.string (str ((l.drop a).take n))) w := by
  have hl := h.1
  obtain ⟨o, ho, hs⟩ := sl_lh w b l.length a n hn (by omega)
  refine ⟨o, hs, ?_⟩
  have hl : ((l.drop a).take n).length = n := by simp; omega
  have := conv_str (w := w) b o (l.length - a) ((l.drop a).take n) (fun i hi => by
    rw [hl] at hi
    obtain rfl : o = a := by omega
    rw [h.at_ (k := o + i) (by omega)]
    simp [List.getD, hi])
  rw [hl] at this
  exact this

theorem rnew_no (c : Int) (w : World) (h : ¬ (1 ≤ c ∧ c ≤ 64)) :
    Calls Try.prog 16 #[.int .i64 c] w fun e w' => e = .returned (.tuple #[.pointer none, .int .i64 300]) ∧ w = w' := by
  by_cases h1 : c < 1
  · clear h
    go_enter Try.func16, Try.ntmps16
    go_wp2
    go_ret2
    exact ⟨rfl, rfl⟩
  · have h2 : 64 < c := by omega
    clear h
    go_enter Try.func16, Try.ntmps16
    go_wp2
    go_ret2
    exact ⟨rfl, rfl⟩

theorem rnew_yes (c : Int) (w : World) (h1 : 1 ≤ c) (h2 : c ≤ 64) :
    Calls Try.prog 16 #[.int .i64 c] w fun e w' => e = .returned (.tuple #[.pointer (some ⟨w.heap.size + 1, 0, none⟩), .int .i64 0]) ∧ RM w' (w.heap.size + 1) w.heap.size (zeros (64 * c.toNat)) ∧ Below w.heap.size w w' := by
  obtain ⟨c, rfl⟩ := Int.eq_ofNat_of_zero_le (show 0 ≤ c by omega)
  go_enter Try.func16, Try.ntmps16
  have hm := make_u8 w (64 * c) (by omega)
  rw [show ((64 * c : Nat) : Int) = c * 64 by omega] at hm
  have HN := Lib.hid (show (zeros (64 * c)).length = 64 * c from zeros_len _)
  generalize hZ : zeros (64 * c) = Z at hm HN
  have HZ := Lib.hid hZ; clear hZ
  have hb0 := Blk.new w 5 (bts Z)
  have hs0 : (w.alloc (.cells (bts Z).toArray 5)).heap.size = w.heap.size + 1 := by simp
  have bel := (Below.refl w.heap.size w).alloc (Nat.le_refl _) (.cells (bts Z).toArray 5)
  generalize w.alloc (.cells (bts Z).toArray 5) = w1 at *
  have HB0 := Lib.hid hb0; have HBel := Lib.hid bel; clear hb0 bel
  go_wp2_with fail
  go_ret2
  refine ⟨rfl, ?_, HBel.out.alloc (by omega) _⟩
  rw [Int.toNat_natCast, HZ.out]
  have := Blk.new w1 40 [.slice (some ⟨w.heap.size, 0, none⟩) (64 * c) (64 * c)]
  rw [hs0] at this
  exact ⟨by rw [HN.out]; omega, by rw [HN.out]; omega, by rw [HN.out]; exact this, HB0.out.alloc _⟩

theorem rframes_any (r b : Nat) (l : List UInt8) (w : World) (h : RM w r b l) :
    Calls Try.prog 21 #[.pointer (some ⟨r, 0, none⟩)] w fun e w' => e = .returned (.int .i64 ((l.length : Int) / 64)) ∧ w = w' := by
  have hc := h.row
  have hl : l.length ≤ 4096 := h.1
  clear h
  go_enter Try.func21, Try.ntmps21
  go_wp2
  go_ret
  exact ⟨rfl, rfl⟩

/-- What of a writing to the document's memory is known. -/
def RWrote (r b B : Nat) (l : List UInt8) (w w' : World) : Prop := RM w' r b l ∧ w.grownBy w' (some b)

theorem zero64_at (k : Nat) (h : k < 64) : zero64.getD k 0 = 0 := by
  unfold zero64
  rw [List.getD_eq_getElem?_getD, List.getElem?_replicate, if_pos h]
  rfl
theorem rputword_any (r b : Nat) (l : List UInt8) (a x : Int) (w : World) (h : RM w r b l) :
    Calls Try.prog 17 #[.pointer (some ⟨r, 0, none⟩), .int .i64 a, .int .i64 x] w fun e w' => e = .returned (.int .i64 (errC (pwB l.length a x))) ∧ RM w' r b (pwL l a x) ∧ w.grownBy w' (some b) := by
  have hl : l.length ≤ 4096 := h.1
  have hc := h.row
  by_cases hp : pwB l.length a x = true
  · have HC : Hid (errC (pwB l.length a x) = 0) := Lib.hid (by rw [hp]; rfl)
    have HL : Hid (pwL l a x = put l a.toNat (by4 x)) := Lib.hid (by unfold pwL; rw [hp]; rfl)
    simp only [pwB, decide_eq_true_eq] at hp
    obtain ⟨h0, h4, ha, hx0, hx1⟩ := hp
    have HB : Hid (mayB a 4 l.length = true) := Lib.hid (decide_eq_true (by omega))
    obtain ⟨a, rfl⟩ := Int.eq_ofNat_of_zero_le h0
    rw [Int.toNat_natCast] at HL
    have hal : a + 4 ≤ l.length := by omega
    have hx4 : ((a : Int) % 4 != 0) = false := by simp [h4]
    clear h4
    go_enter Try.func17, Try.ntmps17
    go_wp2_with fail
    refine (rmay_any _ _ _ _ (by omega)).mono ?_
    rintro e w' ⟨rfl, rfl⟩
    rw [HB.out]
    go_wp2_with fail
    go_loopw [7] (fun i wr => ∃ k : Nat, k ≤ 4 ∧ i = .int .i64 k ∧ RM wr r b (put l a ((by4 x).take k)) ∧ w.grownBy wr (some b)) (fun i _ => 4 - (intOf i).toNat)
    case atStart => exact ⟨0, by omega, rfl, by rw [List.take_zero, put_nil]; exact h, grefl _ _⟩
    case round =>
      clear h hc hx4
      obtain ⟨k, hk, rfl, h, hg⟩ := hrel
      by_cases hlt : k < 4
      · have hlen : (put l a ((by4 x).take k)).length = l.length := put_len _ _ _ (by rw [List.length_take, by4_len]; omega)
        have hc := h.row
        rw [hlen] at hc
        have hu := h.at_ (k := a + k) (by omega)
        have hf := h.frozen (a + k)
        have hst := h.set (a + k) ((by4 x).getD k 0)
        rw [put_step l a (by4 x) k (by rw [by4_len]; exact hlt) (by rw [by4_len]; exact hal) _ rfl, ← by4_at x k hlt hx0] at hst
        have HH := Lib.hid hst; have HG := Lib.hid hg; clear hst hg h hlen
        generalize ((put l a ((by4 x).take k)).getD (a + k) 0).toNat = u at hu
        have i6 : ((a : Int) + k).toNat = a + k := by omega
        have i7 : (a : Int) + k < l.length := by omega
        go_wp2_with fail
        go_roundw
        case rel => exact ⟨k + 1, by omega, by go_num, HH.out, gtrans HG.out (gone _)⟩
        case measure => simp [intOf]; omega
      · obtain rfl : k = 4 := by omega
        go_wp2_with fail
        go_ret
        exact ⟨by rw [HC.out]; rfl, by rw [HL.out]; rw [List.take_of_length_le (by rw [by4_len]; omega)] at h; exact h, hg⟩
  · have hb : pwB l.length a x = false := by simpa using hp
    have HC : Hid (errC (pwB l.length a x) = 300) := Lib.hid (by rw [hb]; rfl)
    have HL : Hid (pwL l a x = l) := Lib.hid (by unfold pwL; rw [hb]; rfl)
    have H := Lib.hid h
    simp only [pwB, decide_eq_true_eq] at hp
    by_cases h0 : a < 0
    · clear hb h hp
      go_enter Try.func17, Try.ntmps17
      go_wp2_with fail
      go_ret
      exact ⟨by rw [HC.out]; rfl, by rw [HL.out]; exact H.out, grefl _ _⟩
    · have h0' : 0 ≤ a := by omega
      by_cases h4 : a % 4 = 0
      · have hx4 : (a % 4 != 0) = false := by simp [h4]
        have hp' : ¬ (a + 4 ≤ l.length ∧ 0 ≤ x ∧ x ≤ 4294967295) := by omega
        clear h4 hp
        by_cases hm : a + 4 ≤ l.length
        · have HB : Hid (mayB a 4 l.length = true) := Lib.hid (decide_eq_true (by omega))
          have h5 : x < 0 ∨ (0 ≤ x ∧ 4294967295 < x) := by omega
          clear hp' hb h
          rcases h5 with h5 | ⟨h5, h6⟩
          all_goals
            go_enter Try.func17, Try.ntmps17
            go_wp2_with fail
            refine (rmay_any _ _ _ _ (by omega)).mono ?_
            rintro e w' ⟨rfl, rfl⟩
            rw [HB.out]
            go_wp2_with fail
            go_ret
            exact ⟨by rw [HC.out]; rfl, by rw [HL.out]; exact H.out, grefl _ _⟩
        · have HB : Hid (mayB a 4 l.length = false) := Lib.hid (decide_eq_false (by omega))
          clear hp' hb h
          go_enter Try.func17, Try.ntmps17
          go_wp2_with fail
          refine (rmay_any _ _ _ _ (by omega)).mono ?_
          rintro e w' ⟨rfl, rfl⟩
          rw [HB.out]
          go_wp2_with fail
          go_ret
          exact ⟨by rw [HC.out]; rfl, by rw [HL.out]; exact H.out, grefl _ _⟩
      · have hx4 : (a % 4 != 0) = true := by simpa using h4
        clear hb h hp h4
        go_enter Try.func17, Try.ntmps17
        go_wp2_with fail
        go_ret
        exact ⟨by rw [HC.out]; rfl, by rw [HL.out]; exact H.out, grefl _ _⟩

end Go.Proofs.Ytfddmfdfimaddaa
