/-
  Contracts of the document's memory: NewMem, Frames, Read, Write, Zero, Word, PutWord.
-/
import Derived.Test.YtcljcjlfbeplcaaPhys2
import Derived.StillTailTactics
import Derived.Laws.OwnMore
import Derived.IntWalk
namespace Go.Proofs.Ytcljcjlfbeplcaa
open Go.RowKit
set_option linter.unusedVariables false

theorem rmay_any (a n s : Int) (w : World) (h4 : s ≤ 9223372036854775807) :
    Calls Try.prog 24 #[.int .i64 a, .int .i64 n, .int .i64 s] w fun e w' => e = .returned (.bool (mayB a n s)) ∧ w = w' := by
  by_cases h : 0 ≤ a ∧ 0 ≤ n ∧ a ≤ s ∧ n ≤ s - a
  · rw [show mayB a n s = true from decide_eq_true h]
    exact rmay_yes a n s w h.1 h.2.1 h.2.2.1 h.2.2.2 h4
  · rw [show mayB a n s = false from decide_eq_false h]
    exact rmay_no a n s w h h4

/-- 'make([]byte, n)'. -/
theorem make_u8 (w : World) (n : Nat) (hn : n ≤ 65536) : (Instr.makeSlice 33 (.int .i64 (n : Int)) (.int .i64 (n : Int))).run Try.prog w = .ok (.slice (some ⟨w.heap.size, 0, none⟩) n n) (w.alloc (.cells (bts (zeros n)).toArray 5)) := by
  have hi : (Try.prog.info? 5).map (fun i => (i.zero, i.size, i.bytes)) = some (some (.int .u8 0), 1, 1) := by kernel_rfl
  obtain ⟨i0, hi, hz0, hz1, hz2⟩ := info_parts hi
  have := run_makeSlice (P := Try.prog) w 33 5 i0 (.int .u8 0) Try.underlying33 hi hz0 .i64 .i64 n n (by omega) (by omega) (by rw [hz1]; omega) (by rw [hz2]; omega) (by omega)
  rw [this, Int.toNat_natCast, hz1, Nat.mul_one]
  have e : madeCells (Value.int .u8 0).cells n = (bts (zeros n)).toArray := by
    apply Array.toList_inj.1
    apply List.ext_getElem
    · simp [madeCells, bts, zeros]
    · intro i h1 h2
      simp [madeCells, bts, zeros, Value.cells, Nat.mod_one]
  rw [e]

/-- 's[a:a+n]' of a slice of bytes that is all of its row. -/
theorem sl_lh (w : World) (b len a n : Nat) (hn : a + n ≤ len) (hl : len ≤ 65536) : ∃ o, (n = 0 ∨ o = a) ∧ (Instr.slice 33 (.slice (some ⟨b, 0, none⟩) len len) (some (.int .i64 (a : Int))) (some (.int .i64 ((a : Int) + n))) none).run Try.prog w = .ok (.slice (some ⟨b, o, none⟩) n (len - a)) w := by
  have ht := Try.underlying33
  have he : Try.prog.elem 33 = 5 := by kernel_rfl
  have hz : (Go.sizeOf 5).run Try.prog w = .ok 1 w := by
    have hi : (Try.prog.info? 5).map (fun i => (i.zero, i.size, i.bytes)) = some (some (.int .u8 0), 1, 1) := by kernel_rfl
    obtain ⟨i0, hi, _, hz1, _⟩ := info_parts hi
    simp [Go.sizeOf, typeInfo, hi, hz1]
  rw [run_slice_lh w 33 _ _ _ (by rw [he]; exact ht) .i64 .i64 _ _ (by omega) (by omega) (by omega), he, hz]
  by_cases h : len = a
  · exact ⟨0, .inl (by omega), by simp [Result.andThen, sliced, h]; omega⟩
  · exact ⟨a, .inr rfl, by simp [Result.andThen, sliced, h, add_none]; omega⟩

theorem RM.read {w : World} {r b : Nat} {l : List UInt8} (h : RM w r b l) (a n : Nat) (hn : a + n ≤ l.length) : ∃ o, (Instr.slice 33 (.slice (some ⟨b, 0, none⟩) l.length l.length) (some (.int .i64 (a : Int))) (some (.int .i64 ((a : Int) + n))) none).run Try.prog w = .ok (.slice (some ⟨b, o, none⟩) n (l.length - a)) w ∧
    (convert 33 9 (.slice (some ⟨b, o, none⟩) n (l.length - a))).run Try.prog w = .ok (.string (str ((l.drop a).take n))) w := by
  have hl := h.1
  obtain ⟨o, ho, hs⟩ := sl_lh w b l.length a n hn (by omega)
  refine ⟨o, hs, ?_⟩
  have hl : ((l.drop a).take n).length = n := by simp; omega
  have := conv_str (w := w) b o (l.length - a) ((l.drop a).take n) (fun i hi => by
    rw [hl] at hi
    obtain rfl : o = a := by omega
    rw [h.at_ (k := o + i) (by omega)]
    simp [List.getD, hi])
  rw [hl] at this
  exact this

theorem rnew_no (c : Int) (w : World) (h : ¬ (1 ≤ c ∧ c ≤ 64)) :
    Calls Try.prog 9 #[.int .i64 c] w fun e w' => e = .returned (.tuple #[.pointer none, .int .i64 300]) ∧ w = w' := by
  by_cases h1 : c < 1
  · clear h
    go_enter Try.func9, Try.ntmps9
    go_wp2
    go_ret2
    exact ⟨rfl, rfl⟩
  · have h2 : 64 < c := by omega
    clear h
    go_enter Try.func9, Try.ntmps9
    go_wp2
    go_ret2
    exact ⟨rfl, rfl⟩

theorem rnew_yes (c : Int) (w : World) (h1 : 1 ≤ c) (h2 : c ≤ 64) :
    Calls Try.prog 9 #[.int .i64 c] w fun e w' => e = .returned (.tuple #[.pointer (some ⟨w.heap.size + 1, 0, none⟩), .int .i64 0]) ∧ RM w' (w.heap.size + 1) w.heap.size (zeros (64 * c.toNat)) ∧ Below w.heap.size w w' := by
  obtain ⟨c, rfl⟩ := Int.eq_ofNat_of_zero_le (show 0 ≤ c by omega)
  go_enter Try.func9, Try.ntmps9
  have hm := make_u8 w (64 * c) (by omega)
  rw [show ((64 * c : Nat) : Int) = c * 64 by omega] at hm
  have HN := Lib.hid (show (zeros (64 * c)).length = 64 * c from zeros_len _)
  generalize hZ : zeros (64 * c) = Z at hm HN
  have HZ := Lib.hid hZ; clear hZ
  have hb0 := Blk.new w 5 (bts Z)
  have hs0 : (w.alloc (.cells (bts Z).toArray 5)).heap.size = w.heap.size + 1 := by simp
  have bel := (Below.refl w.heap.size w).alloc (Nat.le_refl _) (.cells (bts Z).toArray 5)
  generalize w.alloc (.cells (bts Z).toArray 5) = w1 at *
  have HB0 := Lib.hid hb0; have HBel := Lib.hid bel; clear hb0 bel
  go_wp2_with fail
  go_ret2
  refine ⟨rfl, ?_, HBel.out.alloc (by omega) _⟩
  rw [Int.toNat_natCast, HZ.out]
  have := Blk.new w1 35 [.slice (some ⟨w.heap.size, 0, none⟩) (64 * c) (64 * c)]
  rw [hs0] at this
  exact ⟨by rw [HN.out]; omega, by rw [HN.out]; omega, by rw [HN.out]; exact this, HB0.out.alloc _⟩

theorem rframes_any (r b : Nat) (l : List UInt8) (w : World) (h : RM w r b l) :
    Calls Try.prog 26 #[.pointer (some ⟨r, 0, none⟩)] w fun e w' => e = .returned (.int .i64 ((l.length : Int) / 64)) ∧ w = w' := by
  have hc := h.row
  have hl : l.length ≤ 4096 := h.1
  clear h
  go_enter Try.func26, Try.ntmps26
  go_wp2
  go_ret
  exact ⟨rfl, rfl⟩

theorem rread_any (r b : Nat) (l : List UInt8) (a n : Int) (w : World) (h : RM w r b l) :
    Calls Try.prog 22 #[.pointer (some ⟨r, 0, none⟩), .int .i64 a, .int .i64 n] w fun e w' => e = .returned (.tuple #[.string (str (rdL l a n)), .int .i64 (errC (mayB a n l.length))]) ∧ w = w' := by
  have hc := h.row
  have hl : l.length ≤ 4096 := h.1
  by_cases hm : 0 ≤ a ∧ 0 ≤ n ∧ a ≤ l.length ∧ n ≤ l.length - a
  · have hb : mayB a n l.length = true := decide_eq_true hm
    have HC : Hid (errC (mayB a n l.length) = 0) := Lib.hid (by rw [hb]; rfl)
    obtain ⟨hm1, hm2, hm3, hm4⟩ := hm
    obtain ⟨a, rfl⟩ := Int.eq_ofNat_of_zero_le hm1
    obtain ⟨n, rfl⟩ := Int.eq_ofNat_of_zero_le hm2
    have HL : Hid (rdL l a n = (l.drop a).take n) := Lib.hid (by unfold rdL; rw [hb]; rfl)
    have HB := Lib.hid hb
    obtain ⟨o, hs, hv⟩ := h.read a n (by omega)
    generalize hX : str ((l.drop a).take n) = X at hv
    have HX := Lib.hid hX; clear hX
    clear hb h
    go_enter Try.func22, Try.ntmps22
    go_wp2_with fail
    refine (rmay_any _ _ _ _ (by omega)).mono ?_
    rintro e w' ⟨rfl, rfl⟩
    rw [HB.out]
    go_wp2_with fail
    go_ret2
    exact ⟨by rw [HC.out, HL.out, HX.out]; rfl, rfl⟩
  · have hb : mayB a n l.length = false := decide_eq_false hm
    have HC : Hid (errC (mayB a n l.length) = 300) := Lib.hid (by rw [hb]; rfl)
    have HL : Hid (rdL l a n = []) := Lib.hid (by unfold rdL; rw [hb]; rfl)
    have HB := Lib.hid hb; have H := Lib.hid h
    clear hb h hm
    go_enter Try.func22, Try.ntmps22
    go_wp2_with fail
    refine (rmay_any _ _ _ _ (by omega)).mono ?_
    rintro e w' ⟨rfl, rfl⟩
    rw [HB.out]
    go_wp2_with fail
    go_ret2
    exact ⟨by rw [HC.out, HL.out]; rfl, rfl⟩

/-- What of a writing to the document's memory is known. -/
def RWrote (r b B : Nat) (l : List UInt8) (w w' : World) : Prop := RM w' r b l ∧ w.grownBy w' (some b)

theorem rwrite_any (r b : Nat) (l : List UInt8) (a : Int) (s : ByteArray) (w : World) (h : RM w r b l) (hs : s.size ≤ maxLen) :
    Calls Try.prog 14 #[.pointer (some ⟨r, 0, none⟩), .int .i64 a, .string s] w fun e w' => e = .returned (.int .i64 (errC (mayB a s.size l.length))) ∧ RM w' r b (wrL l a s.data.toList) ∧ w.grownBy w' (some b) := by
  have hc := h.row
  have hl : l.length ≤ 4096 := h.1
  unfold maxLen at hs
  by_cases hm : 0 ≤ a ∧ 0 ≤ (s.size : Int) ∧ a ≤ l.length ∧ s.size ≤ l.length - a
  · have hb : mayB a s.size l.length = true := decide_eq_true hm
    have HC : Hid (errC (mayB a s.size l.length) = 0) := Lib.hid (by rw [hb]; rfl)
    have HL : Hid (wrL l a s.data.toList = put l a.toNat s.data.toList) := Lib.hid (by unfold wrL; rw [list_len, hb]; rfl)
    obtain ⟨hm1, hm2, hm3, hm4⟩ := hm
    obtain ⟨a, rfl⟩ := Int.eq_ofNat_of_zero_le hm1
    rw [Int.toNat_natCast] at HL
    have HB := Lib.hid hb
    have hal : a + s.size ≤ l.length := by omega
    clear hb
    go_enter Try.func14, Try.ntmps14
    go_wp2_with fail
    refine (rmay_any _ _ _ _ (by omega)).mono ?_
    rintro e w' ⟨rfl, rfl⟩
    rw [HB.out]
    clear hc
    go_wp2_with fail
    go_loopw [7] (fun i wr => ∃ k : Nat, k ≤ s.size ∧ i = .int .i64 k ∧ RM wr r b (put l a (s.data.toList.take k)) ∧ w.grownBy wr (some b)) (fun i _ => s.size - (intOf i).toNat)
    case atStart => exact ⟨0, by omega, rfl, by rw [List.take_zero, put_nil]; exact h, grefl _ _⟩
    case round =>
      clear h
      obtain ⟨k, hk, rfl, h, hg⟩ := hrel
      by_cases hlt : k < s.size
      · have hlen : (put l a (s.data.toList.take k)).length = l.length := put_len _ _ _ (by rw [List.length_take, list_len]; omega)
        have hc := h.row
        rw [hlen] at hc
        have hu := h.at_ (k := a + k) (by omega)
        have hf := h.frozen (a + k)
        have hst := h.set (a + k) s[k]
        rw [put_step l a s.data.toList k (by rw [list_len]; exact hlt) (by rw [list_len]; exact hal) _ (byte_get s k hlt)] at hst
        have HH := Lib.hid hst; have HG := Lib.hid hg; clear hst hg h hlen
        generalize ((put l a (s.data.toList.take k)).getD (a + k) 0).toNat = u at hu
        have i1 : (k : Int) < s.size := by omega
        have i2 : (0 : Int) ≤ k := by omega
        have i3 : (a : Int) + k < l.length := by omega
        have i4 : (0 : Int) ≤ (a : Int) + k := by omega
        have i5 : IntKind.i64.wrap ((a : Int) + k) = (a : Int) + k := IntWalk.i64_in _ (by omega)
        have i6 : ((a : Int) + k).toNat = a + k := by omega
        go_wp2_with fail
        go_still_tail 11, (by kernel_rfl)
        change wpList _ _ _ _ _ wr.drew
        clear i5 i6
        have hu' : wr.drew.cell? ⟨b, a + k, none⟩ = some (.int .u8 (u : Int)) := hu
        have hf' : wr.drew.frozen? ⟨b, a + k, none⟩ = false := hf
        clear hu hf hc
        have H2 : Hid (RM (wr.drew.setCell ⟨b, a + k, none⟩ (.int .u8 (s[k].toNat : Int))) r b (put l a (s.data.toList.take (k + 1)))) := Lib.hid HH.out
        have G2 : Hid (w.grownBy wr.drew (some b)) := Lib.hid (gdrewN HG.out 1)
        clear HH HG
        generalize wr.drew = wd at *
        go_wp2_with fail
        go_roundw
        case rel => exact ⟨k + 1, by omega, by go_num, H2.out, gtrans G2.out (gone _)⟩
        case measure => simp [intOf]; omega
      · obtain rfl : k = s.size := by omega
        go_wp2_with fail
        go_ret
        exact ⟨by rw [HC.out]; rfl, by rw [HL.out]; rw [List.take_of_length_le (by rw [list_len]; omega)] at h; exact h, hg⟩
  · have hb : mayB a s.size l.length = false := decide_eq_false hm
    have HC : Hid (errC (mayB a s.size l.length) = 300) := Lib.hid (by rw [hb]; rfl)
    have HL : Hid (wrL l a s.data.toList = l) := Lib.hid (by unfold wrL; rw [list_len, hb]; rfl)
    have HB := Lib.hid hb; have H := Lib.hid h
    clear hb h hm
    go_enter Try.func14, Try.ntmps14
    go_wp2_with fail
    refine (rmay_any _ _ _ _ (by omega)).mono ?_
    rintro e w' ⟨rfl, rfl⟩
    rw [HB.out]
    go_wp2_with fail
    go_ret
    exact ⟨by rw [HC.out]; rfl, by rw [HL.out]; exact H.out, grefl _ _⟩

theorem zero64_at (k : Nat) (h : k < 64) : zero64.getD k 0 = 0 := by
  unfold zero64
  rw [List.getD_eq_getElem?_getD, List.getElem?_replicate, if_pos h]
  rfl
theorem rzero_any (r b : Nat) (l : List UInt8) (f : Int) (w : World) (h : RM w r b l) :
    Calls Try.prog 18 #[.pointer (some ⟨r, 0, none⟩), .int .i64 f] w fun e w' => e = .returned (.int .i64 (errC (zeB l.length f))) ∧ RM w' r b (zeL l f) ∧ w.grownBy w' (some b) := by
  have hl : l.length ≤ 4096 := h.1
  have hl64 := h.2.1.2
  have H := Lib.hid h
  by_cases h0 : f < 0
  · have hb : zeB l.length f = false := decide_eq_false (by omega)
    have HC : Hid (errC (zeB l.length f) = 300) := Lib.hid (by rw [hb]; rfl)
    have HL : Hid (zeL l f = l) := Lib.hid (by unfold zeL; rw [hb]; rfl)
    clear hb h hl64
    go_enter Try.func18, Try.ntmps18
    go_wp2_with fail
    go_ret
    exact ⟨by rw [HC.out]; rfl, by rw [HL.out]; exact H.out, grefl _ _⟩
  · by_cases h1 : 64 * f < l.length
    · have hb : zeB l.length f = true := decide_eq_true (by omega)
      have HC : Hid (errC (zeB l.length f) = 0) := Lib.hid (by rw [hb]; rfl)
      have HL : Hid (zeL l f = put l (64 * f.toNat) zero64) := Lib.hid (by unfold zeL; rw [hb]; rfl)
      obtain ⟨f, rfl⟩ := Int.eq_ofNat_of_zero_le (show 0 ≤ f by omega)
      rw [Int.toNat_natCast] at HL
      have hfl : 64 * f + 64 ≤ l.length := by omega
      have hf64 : f < 64 := by omega
      have hd : decide ((l.length : Int) / 64 ≤ f) = false := by simp; omega
      clear hb hl64 h0 h1
      go_enter Try.func18, Try.ntmps18
      go_wp2_with fail
      refine (rframes_any r b l _ H.out).mono ?_
      rintro e w' ⟨rfl, rfl⟩
      go_wp2_with fail
      go_loopw [5] (fun i wr => ∃ k : Nat, k ≤ 64 ∧ i = .int .i64 k ∧ RM wr r b (put l (64 * f) (zero64.take k)) ∧ w.grownBy wr (some b)) (fun i _ => 64 - (intOf i).toNat)
      case atStart => exact ⟨0, by omega, rfl, by rw [List.take_zero, put_nil]; exact h, grefl _ _⟩
      case round =>
        clear h
        obtain ⟨k, hk, rfl, h, hg⟩ := hrel
        by_cases hlt : k < 64
        · have hlen : (put l (64 * f) (zero64.take k)).length = l.length := put_len _ _ _ (by rw [List.length_take, zero64_len]; omega)
          have hc := h.row
          rw [hlen] at hc
          have hu := h.at_ (k := 64 * f + k) (by omega)
          have hf := h.frozen (64 * f + k)
          have hst := h.set (64 * f + k) 0
          rw [put_step l (64 * f) zero64 k (by rw [zero64_len]; exact hlt) (by rw [zero64_len]; exact hfl) 0 (zero64_at k hlt)] at hst
          have HH := Lib.hid hst; have HG := Lib.hid hg; clear hst hg h hlen
          generalize ((put l (64 * f) (zero64.take k)).getD (64 * f + k) 0).toNat = u at hu
          have i6 : ((f : Int) * 64 + k).toNat = 64 * f + k := by omega
          have i7 : (f : Int) * 64 + k < l.length := by omega
          go_wp2_with fail
          go_roundw
          case rel => exact ⟨k + 1, by omega, by go_num, HH.out, gtrans HG.out (gone _)⟩
          case measure => simp [intOf]; omega
        · obtain rfl : k = 64 := by omega
          go_wp2_with fail
          go_ret
          exact ⟨by rw [HC.out]; rfl, by rw [HL.out]; rw [List.take_of_length_le (by rw [zero64_len]; omega)] at h; exact h, hg⟩
    · have hb : zeB l.length f = false := decide_eq_false (by omega)
      have HC : Hid (errC (zeB l.length f) = 300) := Lib.hid (by rw [hb]; rfl)
      have HL : Hid (zeL l f = l) := Lib.hid (by unfold zeL; rw [hb]; rfl)
      have hd : decide ((l.length : Int) / 64 ≤ f) = true := by simp; omega
      clear hb h hl64
      go_enter Try.func18, Try.ntmps18
      go_wp2_with fail
      refine (rframes_any r b l _ H.out).mono ?_
      rintro e w' ⟨rfl, rfl⟩
      go_wp2_with fail
      go_ret
      exact ⟨by rw [HC.out]; rfl, by rw [HL.out]; exact H.out, grefl _ _⟩

theorem rputword_any (r b : Nat) (l : List UInt8) (a x : Int) (w : World) (h : RM w r b l) :
    Calls Try.prog 16 #[.pointer (some ⟨r, 0, none⟩), .int .i64 a, .int .i64 x] w fun e w' => e = .returned (.int .i64 (errC (pwB l.length a x))) ∧ RM w' r b (pwL l a x) ∧ w.grownBy w' (some b) := by
  have hl : l.length ≤ 4096 := h.1
  have hc := h.row
  by_cases hp : pwB l.length a x = true
  · have HC : Hid (errC (pwB l.length a x) = 0) := Lib.hid (by rw [hp]; rfl)
    have HL : Hid (pwL l a x = put l a.toNat (by4 x)) := Lib.hid (by unfold pwL; rw [hp]; rfl)
    simp only [pwB, decide_eq_true_eq] at hp
    obtain ⟨h0, h4, ha, hx0, hx1⟩ := hp
    have HB : Hid (mayB a 4 l.length = true) := Lib.hid (decide_eq_true (by omega))
    obtain ⟨a, rfl⟩ := Int.eq_ofNat_of_zero_le h0
    rw [Int.toNat_natCast] at HL
    have hal : a + 4 ≤ l.length := by omega
    have hx4 : ((a : Int) % 4 != 0) = false := by simp [h4]
    clear h4
    go_enter Try.func16, Try.ntmps16
    go_wp2_with fail
    refine (rmay_any _ _ _ _ (by omega)).mono ?_
    rintro e w' ⟨rfl, rfl⟩
    rw [HB.out]
    go_wp2_with fail
    go_loopw [7] (fun i wr => ∃ k : Nat, k ≤ 4 ∧ i = .int .i64 k ∧ RM wr r b (put l a ((by4 x).take k)) ∧ w.grownBy wr (some b)) (fun i _ => 4 - (intOf i).toNat)
    case atStart => exact ⟨0, by omega, rfl, by rw [List.take_zero, put_nil]; exact h, grefl _ _⟩
    case round =>
      clear h hc hx4
      obtain ⟨k, hk, rfl, h, hg⟩ := hrel
      by_cases hlt : k < 4
      · have hlen : (put l a ((by4 x).take k)).length = l.length := put_len _ _ _ (by rw [List.length_take, by4_len]; omega)
        have hc := h.row
        rw [hlen] at hc
        have hu := h.at_ (k := a + k) (by omega)
        have hf := h.frozen (a + k)
        have hst := h.set (a + k) ((by4 x).getD k 0)
        rw [put_step l a (by4 x) k (by rw [by4_len]; exact hlt) (by rw [by4_len]; exact hal) _ rfl, ← by4_at x k hlt hx0] at hst
        have HH := Lib.hid hst; have HG := Lib.hid hg; clear hst hg h hlen
        generalize ((put l a ((by4 x).take k)).getD (a + k) 0).toNat = u at hu
        have i6 : ((a : Int) + k).toNat = a + k := by omega
        have i7 : (a : Int) + k < l.length := by omega
        go_wp2_with fail
        go_roundw
        case rel => exact ⟨k + 1, by omega, by go_num, HH.out, gtrans HG.out (gone _)⟩
        case measure => simp [intOf]; omega
      · obtain rfl : k = 4 := by omega
        go_wp2_with fail
        go_ret
        exact ⟨by rw [HC.out]; rfl, by rw [HL.out]; rw [List.take_of_length_le (by rw [by4_len]; omega)] at h; exact h, hg⟩
  · have hb : pwB l.length a x = false := by simpa using hp
    have HC : Hid (errC (pwB l.length a x) = 300) := Lib.hid (by rw [hb]; rfl)
    have HL : Hid (pwL l a x = l) := Lib.hid (by unfold pwL; rw [hb]; rfl)
    have H := Lib.hid h
    simp only [pwB, decide_eq_true_eq] at hp
    by_cases h0 : a < 0
    · clear hb h hp
      go_enter Try.func16, Try.ntmps16
      go_wp2_with fail
      go_ret
      exact ⟨by rw [HC.out]; rfl, by rw [HL.out]; exact H.out, grefl _ _⟩
    · have h0' : 0 ≤ a := by omega
      by_cases h4 : a % 4 = 0
      · have hx4 : (a % 4 != 0) = false := by simp [h4]
        have hp' : ¬ (a + 4 ≤ l.length ∧ 0 ≤ x ∧ x ≤ 4294967295) := by omega
        clear h4 hp
        by_cases hm : a + 4 ≤ l.length
        · have HB : Hid (mayB a 4 l.length = true) := Lib.hid (decide_eq_true (by omega))
          have h5 : x < 0 ∨ (0 ≤ x ∧ 4294967295 < x) := by omega
          clear hp' hb h
          rcases h5 with h5 | ⟨h5, h6⟩
          all_goals
            go_enter Try.func16, Try.ntmps16
            go_wp2_with fail
            refine (rmay_any _ _ _ _ (by omega)).mono ?_
            rintro e w' ⟨rfl, rfl⟩
            rw [HB.out]
            go_wp2_with fail
            go_ret
            exact ⟨by rw [HC.out]; rfl, by rw [HL.out]; exact H.out, grefl _ _⟩
        · have HB : Hid (mayB a 4 l.length = false) := Lib.hid (decide_eq_false (by omega))
          clear hp' hb h
          go_enter Try.func16, Try.ntmps16
          go_wp2_with fail
          refine (rmay_any _ _ _ _ (by omega)).mono ?_
          rintro e w' ⟨rfl, rfl⟩
          rw [HB.out]
          go_wp2_with fail
          go_ret
          exact ⟨by rw [HC.out]; rfl, by rw [HL.out]; exact H.out, grefl _ _⟩
      · have hx4 : (a % 4 != 0) = true := by simpa using h4
        clear hb h hp h4
        go_enter Try.func16, Try.ntmps16
        go_wp2_with fail
        go_ret
        exact ⟨by rw [HC.out]; rfl, by rw [HL.out]; exact H.out, grefl _ _⟩

end Go.Proofs.Ytcljcjlfbeplcaa
