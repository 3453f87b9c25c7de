/-
  Contracts: the law's ring of bytes (ringed), and answers that are known.
-/
import Derived.Test.YtcjmgjdejljjkaaRi2
import Derived.Test.YtcjmgjdejljjkaaRi4
import Derived.Test.YtcjmgjdejljjkaaDe3
import Derived.Test.YtcjmgjdejljjkaaNum
namespace Go.Proofs.Ytcjmgjdejljjkaa
open Go.RowKit
set_option linter.unusedVariables false
set_option linter.unusedSimpArgs false
set_option maxRecDepth 100000

theorem rdeput_is (o x l b n c : Int) (S : ByteArray) (w : World) (hS : str (deL o x l b n) = S) (hc : e16 (deB o x l b n) = c) :
    Calls Try.prog 32 #[.agg #[.int .i64 o, .int .i64 x, .int .i64 l, .int .i64 b, .int .i64 n]] w fun e w' => e = .returned (.tuple #[.string S, .int .i64 c]) ∧ Below w.heap.size w w' := by
  subst hS hc; exact rdeput_any o x l b n w

def z8 : List UInt8 := [0, 0, 0, 0, 0, 0, 0, 0]
/-- Zeros as the law makes them: a row of eight, told as a text. -/
theorem zeros8 (w : World) : (convert 60 9 (.slice (some ⟨w.heap.size, 0, none⟩) 8 8)).run Try.prog (w.alloc (.cells (bts z8).toArray 5)) = .ok (.string (str z8)) (w.alloc (.cells (bts z8).toArray 5)) :=
  conv_str (w := w.alloc (.cells (bts z8).toArray 5)) w.heap.size 0 8 z8 (fun i hi => by rw [(Blk.new w 5 (bts z8)).cell, Nat.zero_add, bts_get _ i hi])

theorem make8 (w : World) : (Instr.makeSlice 60 (.int .i64 8) (.int .i64 8)).run Try.prog w = .ok (.slice (some ⟨w.heap.size, 0, none⟩) 8 8) (w.alloc (.cells (bts z8).toArray 5)) := by
  have hi : (Try.prog.info? 5).map (fun i => (i.zero, i.size, i.bytes)) = some (some (.int .u8 0), 1, 1) := by kernel_rfl
  obtain ⟨i0, hi, hz0, hz1, hz2⟩ := info_parts hi
  have := run_makeSlice (P := Try.prog) w 60 5 i0 (.int .u8 0) Try.underlying60 hi hz0 .i64 .i64 8 8 (by omega) (by omega) (by rw [hz1]; omega) (by rw [hz2]; omega) (by omega)
  rw [this, hz1]
  have e : madeCells (Value.int .u8 0).cells (Int.toNat 8 * 1) = (bts z8).toArray := by
    have h8 : Int.toNat 8 * 1 = 8 := rfl
    rw [h8]
    apply Array.toList_inj.1
    apply List.ext_getElem
    · simp [madeCells, bts, z8]
    · intro i h1 h2
      have h3 : i < 8 := by simpa [bts, z8] using h2
      rcases (show i = 0 ∨ i = 1 ∨ i = 2 ∨ i = 3 ∨ i = 4 ∨ i = 5 ∨ i = 6 ∨ i = 7 by omega) with rfl | rfl | rfl | rfl | rfl | rfl | rfl | rfl <;> simp [madeCells, bts, z8, Value.cells]
  rw [e]
  rfl

set_option maxHeartbeats 2000000 in
theorem ringed_any (v : Value) (n : Nat) (l : List Ds) (w : World) (hs : Sl w v n 5 (ints (dss l))) (hll : l.length = n) (hn : n ≤ maxLen) :
    Calls Try.prog 20 #[v] w fun e w' => e = .returned (.string (str (rngL l))) ∧ Below w.heap.size w w' := by
  have HS := Lib.hid hs
  obtain ⟨A, cap, rfl, -, -, -⟩ := hs
  unfold maxLen at hn
  go_enter Try.func20, Try.ntmps20
  go_wp2_with fail
  go_loopw [3, 4] (fun s i wr => ∃ (k : Nat) (X : ByteArray), k ≤ 8 ∧ i = .int .i64 k ∧ s = .string X ∧ Hid (str (ringK l k) = X ∧ Below w.heap.size w wr)) (fun _ i _ => 8 - (intOf i).toNat)
  case atStart => exact ⟨0, _, by omega, rfl, rfl, Lib.hid ⟨rfl, Below.refl _ _⟩⟩
  case round =>
    obtain ⟨k, X, hk, rfl, rfl, H⟩ := hrel
    by_cases hlt : k < 8
    · have hz := zeros8 wr
      have hm := make8 wr
      have h1 := H.out.2.size
      have HB := Lib.hid (H.out.2.alloc h1 (.cells (bts z8).toArray 5))
      have HX := Lib.hid H.out.1
      have HSr := Lib.hid (HS.out.below HB.out)
      have hXs : X.size = 8 * k := by rw [← H.out.1, str_size, ringK_len]
      have hp0 : X.size + (str z8).size ≤ 9223372036854775807 := by rw [hXs, str_size]; simp [z8]; omega
      generalize hZ : str z8 = Z at *
      have HZ := Lib.hid hZ
      generalize wr.alloc (.cells (bts z8).toArray 5) = wa at *
      clear H hZ
      by_cases hkn : k < n
      · have hkl : k < l.length := by omega
        obtain ⟨bb, oo, rfl, -, c0, c1, c2, c3, c4⟩ := ds_at HSr.out hll k hkl
        have HA : Hid (ringA l k = ringB l[k]) := Lib.hid (by unfold ringA; rw [dif_pos hkl])
        generalize l[k] = d at *
        obtain ⟨o, x, lb, b, m⟩ := d
        simp only at c0 c1 c2 c3 c4
        cases hd : deB o x lb b m
        · have hY : ∃ Y, X ++ Z = Y := ⟨_, rfl⟩
          obtain ⟨Y, hY⟩ := hY
          have HY : Hid (str (ringK l (k + 1)) = Y) := Lib.hid (by rw [← hY, ← HX.out, ← HZ.out, str_append, ringK, HA.out]; unfold ringB deD; simp only; rw [hd]; rfl)
          have HD := Lib.hid hd
          clear hd
          go_wp2_with fail
          refine (rdeput_is o x lb b m 1600 ⟨#[]⟩ _ (by rw [deL_no HD.out]; rfl) (by rw [HD.out]; rfl)).mono ?_
          rintro e w3 ⟨rfl, b3⟩
          have HB := Lib.hid (Below.down HB.out b3 HB.out.size)
          clear b3
          go_wp2_with fail
          go_roundw
          case rel => exact ⟨k + 1, Y, by omega, by go_num, rfl, Lib.hid ⟨HY.out, HB.out⟩⟩
          case measure => simp [intOf]; omega
        · obtain ⟨V, hV⟩ : ∃ V, str (deR o x lb b m) = V := ⟨_, rfl⟩
          have hVs : V.size = 8 := by rw [← hV, str_size]; rfl
          have hp1 : X.size + V.size ≤ 9223372036854775807 := by rw [hXs, hVs]; omega
          obtain ⟨Y, hY⟩ : ∃ Y, X ++ V = Y := ⟨_, rfl⟩
          have HY : Hid (str (ringK l (k + 1)) = Y) := Lib.hid (by rw [← hY, ← HX.out, ← hV, str_append, ringK, HA.out]; unfold ringB deD; simp only; rw [hd]; rfl)
          have HD := Lib.hid hd
          have HV := Lib.hid hV
          clear hd hV
          go_wp2_with fail
          refine (rdeput_is o x lb b m 0 V _ (by rw [deL_yes HD.out]; exact HV.out) (by rw [HD.out]; rfl)).mono ?_
          rintro e w3 ⟨rfl, b3⟩
          have HB := Lib.hid (Below.down HB.out b3 HB.out.size)
          clear b3
          go_wp2_with fail
          go_roundw
          case rel => exact ⟨k + 1, Y, by omega, by go_num, rfl, Lib.hid ⟨HY.out, HB.out⟩⟩
          case measure => simp [intOf]; omega
      · obtain ⟨Y, hY⟩ : ∃ Y, X ++ Z = Y := ⟨_, rfl⟩
        have HY : Hid (str (ringK l (k + 1)) = Y) := Lib.hid (by rw [← hY, ← HX.out, ← HZ.out, str_append, ringK]; unfold ringA; rw [dif_neg (by omega)]; rfl)
        go_wp2_with fail
        go_roundw
        case rel => exact ⟨k + 1, Y, by omega, by go_num, rfl, Lib.hid ⟨HY.out, HB.out⟩⟩
        case measure => simp [intOf]; omega
    · go_wp2
      go_ret
      obtain rfl : k = 8 := by omega
      exact ⟨by rw [← H.out.1]; rfl, H.out.2⟩

end Go.Proofs.Ytcjmgjdejljjkaa
