/-
  Layer 19, the program: run, Read, Write.
-/
import Derived.Test.YtjccdimmfhkipaaDk0
import Derived.Laws.BytesArg
namespace Go.Proofs.Ytjccdimmfhkipaa
open Go.RowKit
set_option linter.unusedVariables false
set_option linter.unusedSimpArgs false
set_option maxRecDepth 100000

theorem arrk_lh (w : World) (g a n : Nat) (hn : a + n ≤ 1024) : ∃ o, (n = 0 ∨ o = 6 + a) ∧ o ≤ 1030 ∧ (Instr.sliceAt 65 (.pointer (some ⟨g, 6, none⟩)) (some (.int .i64 (a : Int))) (some (.int .i64 ((a : Int) + n))) none).run Try.prog w = .ok (.slice (some ⟨g, o, none⟩) n (1024 - a)) w := by
  have ht := Try.underlying65
  have hl : Try.prog.arrayLen 65 = 1024 := by kernel_rfl
  have he : Try.prog.elem 65 = 5 := by kernel_rfl
  have hz : (Go.sizeOf 5).run Try.prog w = .ok 1 w := by
    have hi : (Try.prog.info? 5).map (fun i => (i.zero, i.size, i.bytes)) = some (some (.int .u8 0), 1, 1) := by kernel_rfl
    obtain ⟨i0, hi, _, hz1, _⟩ := info_parts hi
    simp [Go.sizeOf, typeInfo, hi, hz1]
  rw [run_sliceAt_array_lh w 65 ⟨g, 6, none⟩ (by rw [hl, he]; exact ht) .i64 .i64 _ _ (by omega) (by omega) (by rw [hl]; omega), he, hz, hl]
  by_cases h : 1024 = a
  · exact ⟨6, .inl (by omega), by omega, by simp [Result.andThen, slicedAt, h]; omega⟩
  · exact ⟨6 + a, .inr rfl, by omega, by simp [Result.andThen, slicedAt, h, add_none]; omega⟩

/-- Nothing as a string. -/
theorem nil_str (w : World) : (convert 56 9 (.slice none 0 0)).run Try.prog w = .ok (.string (str [])) w :=
  run_convert_bytes_nil w 56 5 Try.underlying56 Try.underlying5 0 0 9 Try.underlying9

section
variable {w : World} {g h : Nat} {ps : List (Int × Int)} {Q : Int} {L : Nat → Int} {l : List UInt8}
theorem PD.text (d : PD w g h ps Q L l) (o c x k : Nat) (hk : x + k ≤ 1024) (ho : k = 0 ∨ o = 6 + x) : (convert 56 9 (.slice (some ⟨g, o, none⟩) k c)).run Try.prog w = .ok (.string (str (seg l x k))) w := by
  have hl := seg_len l x k (by rw [d.ll]; exact hk)
  have := conv_str (w := w) g o c (seg l x k) (fun i hi => by
    rw [hl] at hi
    obtain rfl : o = 6 + x := by omega
    rw [Nat.add_assoc, d.byte (x + i) (by omega)]
    simp [seg, List.getD, hi])
  rw [hl] at this
  exact this

/-- What run answers. -/
def RunA (g : Nat) (ps : List (Int × Int)) (p a n : Int) (w : World) (e : Ending) (w' : World) : Prop :=
  ∃ X, e = .returned (.tuple #[X, .int .i64 (toC ps p a n).2]) ∧ Below w.heap.size w w' ∧ ((toC ps p a n).2 = 0 → ∃ x k o : Nat, (toC ps p a n).1 = x ∧ n = k ∧ x + k ≤ 64 ∧ X = .slice (some ⟨g, o, none⟩) (k * 16) (1024 - x * 16) ∧ (k * 16 = 0 ∨ o = 6 + x * 16) ∧ o ≤ 1030) ∧ ((toC ps p a n).2 ≠ 0 → X = .slice none 0 0)

set_option maxHeartbeats 1000000 in
theorem drun_any (p a n : Int) (d : PD w g h ps Q L l) :
    Calls Try.prog 30 #[.pointer (some ⟨g, 0, none⟩), .int .i64 p, .int .i64 a, .int .i64 n] w (RunA g ps p a n w) := by
  have HT := Lib.hid (to_any _ ps p a n w d.pts)
  obtain ⟨c0, _⟩ := d.heads
  have hl := d.p4
  obtain ⟨R, hR⟩ : ∃ R, toC ps p a n = R := ⟨_, rfl⟩
  have HX : Hid (R.2 = 0 → ∃ x k : Nat, R.1 = x ∧ n = k ∧ (x : Int) + k ≤ 64) := Lib.hid (fun e => by rw [← hR] at e ⊢; exact toC_in (toC_ext e) e)
  have HC := Lib.hid (toC_codes ps p a n)
  have HR := Lib.hid hR
  rw [hR] at HT HC
  clear hR d
  rcases HC.out with h0 | ⟨_, h0⟩
  · obtain ⟨x, k, hx, rfl, hk⟩ := HX.out h0
    obtain ⟨R1, R2⟩ := R
    simp only at hx h0
    subst hx; subst h0
    have HR' := HR.out
    have HS : Hid (∀ W, ∃ o, (k * 16 = 0 ∨ o = 6 + x * 16) ∧ o ≤ 1030 ∧ (Instr.sliceAt 65 (.pointer (some ⟨g, 6, none⟩)) (some (.int .i64 ((x : Int) * 16))) (some (.int .i64 ((x : Int) * 16 + (k : Int) * 16))) none).run Try.prog W = .ok (.slice (some ⟨g, o, none⟩) (k * 16) (1024 - x * 16)) W) := Lib.hid (fun W => by
      have := arrk_lh W g (x * 16) (k * 16) (by omega)
      simpa only [Int.natCast_mul, Int.cast_ofNat_Int] using this)
    clear HX HC HR'
    go_enter Try.func30, Try.ntmps30
    go_wp2_with fail
    refine HT.out.mono ?_
    rintro e w1 ⟨rfl, b⟩
    obtain ⟨o, ho, ho2, hs⟩ := HS.out w1
    have HB := Lib.hid b
    clear b
    go_wp2_with fail
    go_ret2
    exact ⟨_, by rw [HR.out]; rfl, HB.out, fun _ => ⟨x, k, o, by rw [HR.out], rfl, by omega, rfl, ho, ho2⟩, fun h => absurd (by rw [HR.out]) h⟩
  · have hne : (R.2 != 0) = true := by rcases h0 with h0 | h0 <;> rw [h0] <;> rfl
    have HN : Hid (R.2 ≠ 0) := Lib.hid (by rcases h0 with h0 | h0 <;> rw [h0] <;> decide)
    obtain ⟨R1, R2⟩ := R
    simp only at hne HN
    clear h0 HX HC
    go_enter Try.func30, Try.ntmps30
    go_wp2_with fail
    refine HT.out.mono ?_
    rintro e w1 ⟨rfl, b⟩
    have HB := Lib.hid b
    clear b
    go_wp2_with fail
    go_ret2
    exact ⟨_, by rw [HR.out]; rfl, HB.out, fun h => absurd (by rw [HR.out] at h; exact h) HN.out, fun _ => rfl⟩

theorem dread_any (p a n : Int) (d : PD w g h ps Q L l) :
    Calls Try.prog 16 #[.pointer (some ⟨g, 0, none⟩), .int .i64 p, .int .i64 a, .int .i64 n] w fun e w' => e = .returned (.tuple #[.string (str (drT ps l p a n)), .int .i64 (toC ps p a n).2]) ∧ Below w.heap.size w w' := by
  have HR := Lib.hid (drun_any p a n d)
  have HD := Lib.hid d
  have HC : Hid (∀ X W, Below w.heap.size w W → ((toC ps p a n).2 = 0 → ∃ x k o : Nat, (toC ps p a n).1 = x ∧ n = k ∧ x + k ≤ 64 ∧ X = .slice (some ⟨g, o, none⟩) (k * 16) (1024 - x * 16) ∧ (k * 16 = 0 ∨ o = 6 + x * 16) ∧ o ≤ 1030) → ((toC ps p a n).2 ≠ 0 → X = .slice none 0 0) → (convert 56 9 X).run Try.prog W = .ok (.string (str (drT ps l p a n))) W) := Lib.hid (fun X W hb h0 h1 => by
    by_cases hc : (toC ps p a n).2 = 0
    · obtain ⟨x, k, o, hx, rfl, hk, rfl, ho, _⟩ := h0 hc
      have := (d.below hb).text o (1024 - x * 16) (x * 16) (k * 16) (by omega) ho
      rw [this]
      unfold drT
      rw [if_pos hc, hx, Int.toNat_natCast, Int.toNat_natCast]
    · rw [h1 hc, nil_str]
      unfold drT
      rw [if_neg hc])
  clear d
  go_enter Try.func16, Try.ntmps16
  go_wp2_with fail
  refine HR.out.mono ?_
  rintro e w1 ⟨X, rfl, b, h0, h1⟩
  have hc := HC.out X w1 b h0 h1
  have HB := Lib.hid b
  clear b h0 h1
  go_wp2_with fail
  go_ret2
  exact ⟨rfl, HB.out⟩

theorem cells_putk (x y : Value) (m : List Value) (l : List UInt8) (a : Nat) (s : List UInt8) (hm : m.length = 4) (h : a + s.length ≤ l.length) :
    (x :: y :: (m ++ bts l)).take (6 + a) ++ bts s ++ (x :: y :: (m ++ bts l)).drop (6 + a + s.length) = x :: y :: (m ++ bts (put l a s)) := by
  rw [show 6 + a + s.length = (4 + (a + s.length)) + 1 + 1 by omega, show 6 + a = (4 + a) + 1 + 1 by omega, List.take_succ_cons, List.take_succ_cons, List.drop_succ_cons, List.drop_succ_cons, ← hm, List.take_length_add_append, List.drop_length_add_append, bts_put]
  simp

/-- The program's copy of a text into a run of the disk's bytes. -/
theorem PD.write (d : PD w g h ps Q L l) (o c x k : Nat) (s : ByteArray) (hk : s.size = k) (hx : x + k ≤ 1024) (ho : k = 0 ∨ o = 6 + x) (ho2 : o ≤ 1030) : ∃ w1, (∀ ty, (Builtin.copy_ #[56, 9] ty #[.slice (some ⟨g, o, none⟩) k c, .string s]).run Try.prog w = .ok (goInt s.size) w1) ∧ PD w1 g h ps Q L (put l x s.data.toList) ∧ w.grownBy w1 (some g) := by
  have hi : (Try.prog.info? 5).map (fun i => (i.zero, i.size, i.bytes)) = some (some (.int .u8 0), 1, 1) := by kernel_rfl
  obtain ⟨i0, hi, _, hz1, _⟩ := info_parts hi
  have hll := d.ll
  have hlen : (.slice (some ⟨h, 0, none⟩) ps.length ps.length :: .int .i64 Q :: (itc L 4 ++ bts l) : List Value).toArray.size = 1030 := by simp [bts_len, itc_len, hll]
  have := fun ty => Lib.run_copy_row_string (P := Try.prog) w 56 9 ty 5 g o k c s _ _ Try.underlying56 (by rw [hi]; simp [hz1]) d.blk (by omega) (by rw [hlen]; omega)
  refine ⟨_, this, d.turn (grown_setRow _ _ _) (by rw [put_len _ _ _ (by rw [list_len]; omega)]; exact hll) d.lb ?_, grown_setRow _ _ _⟩
  have e : (.slice (some ⟨h, 0, none⟩) ps.length ps.length :: .int .i64 Q :: (itc L 4 ++ bts l) : List Value).take o ++ bts s.data.toList ++ (.slice (some ⟨h, 0, none⟩) ps.length ps.length :: .int .i64 Q :: (itc L 4 ++ bts l) : List Value).drop (o + s.size) = .slice (some ⟨h, 0, none⟩) ps.length ps.length :: .int .i64 Q :: (itc L 4 ++ bts (put l x s.data.toList)) := by
    by_cases h0 : k = 0
    · have h1 : s.data.toList = [] := List.eq_nil_of_length_eq_zero (by rw [list_len]; omega)
      rw [h1, put_nil, hk, h0]
      simp [bts]
    · obtain rfl : o = 6 + x := by omega
      rw [← list_len s]
      exact cells_putk _ _ _ _ _ _ (itc_len _ _) (by rw [list_len]; omega)
  have hb := d.blk.row ((.slice (some ⟨h, 0, none⟩) ps.length ps.length :: .int .i64 Q :: (itc L 4 ++ bts l) : List Value).take o ++ bts s.data.toList ++ (.slice (some ⟨h, 0, none⟩) ps.length ps.length :: .int .i64 Q :: (itc L 4 ++ bts l) : List Value).drop (o + s.size))
  have hb2 : Blk (w.setRow g ((.slice (some ⟨h, 0, none⟩) ps.length ps.length :: .int .i64 Q :: (itc L 4 ++ bts l) : List Value).take o ++ bts s.data.toList ++ (.slice (some ⟨h, 0, none⟩) ps.length ps.length :: .int .i64 Q :: (itc L 4 ++ bts l) : List Value).drop (o + s.size)).toArray) g 67 (.slice (some ⟨h, 0, none⟩) ps.length ps.length :: .int .i64 Q :: (itc L 4 ++ bts (put l x s.data.toList))) := by
    rw [e] at hb ⊢
    exact hb
  exact hb2

set_option maxHeartbeats 1000000 in
theorem dwrite_any (p a : Int) (s : ByteArray) (d : PD w g h ps Q L l) (hs : s.size ≤ maxLen) :
    Calls Try.prog 14 #[.pointer (some ⟨g, 0, none⟩), .int .i64 p, .int .i64 a, .string s] w fun e w' => e = .returned (.int .i64 (dwC ps p a s.data.toList)) ∧ PD w' g h ps Q L (dwL ps l p a s.data.toList) ∧ w.grownBy w' (some g) := by
  have HR := Lib.hid (drun_any p a ((s.size : Int) / 16) d)
  have HD := Lib.hid d
  have HW : Hid (dwC ps p a s.data.toList = if (toC ps p a ((s.size : Int) / 16)).2 = 0 then (if s.size % 16 = 0 then 0 else 1900) else (toC ps p a ((s.size : Int) / 16)).2) := Lib.hid (by unfold dwC; rw [list_len])
  have HL : Hid (dwL ps l p a s.data.toList = if dwC ps p a s.data.toList = 0 then put l ((toC ps p a ((s.size : Int) / 16)).1.toNat * 16) s.data.toList else l) := Lib.hid (by unfold dwL; rw [list_len])
  have HCC := Lib.hid (toC_codes ps p a ((s.size : Int) / 16))
  unfold maxLen at hs
  clear d
  obtain ⟨R, hR⟩ : ∃ R, toC ps p a ((s.size : Int) / 16) = R := ⟨_, rfl⟩
  unfold RunA at HR
  rw [hR] at HR HW HL HCC
  clear hR
  obtain ⟨N, hN⟩ : ∃ N, s.size = N := ⟨_, rfl⟩
  rw [hN] at HR HW hs
  have HN := Lib.hid hN
  by_cases h0 : R.2 = 0
  · have e0 : (R.2 != 0) = false := by rw [h0]; rfl
    by_cases h6 : N % 16 = 0
    · have e6 : ((N : Int) % 16 != 0) = false := by simp; omega
      have HX : Hid (dwC ps p a s.data.toList = 0) := Lib.hid (by rw [HW.out, if_pos h0, if_pos h6])
      have HY : Hid (dwL ps l p a s.data.toList = put l (R.1.toNat * 16) s.data.toList) := Lib.hid (by rw [HL.out, if_pos HX.out])
      have H0 := Lib.hid h0; have H6 := Lib.hid h6
      clear h0 h6 HW HL HCC
      go_enter Try.func14, Try.ntmps14
      go_wp2_with fail
      refine HR.out.mono ?_
      rintro e w1 ⟨X, rfl, b, q0, -⟩
      obtain ⟨x, k, o, hx, hk, hxk, rfl, ho, ho2⟩ := q0 H0.out
      obtain ⟨w2, hcp, d2, g2⟩ := (HD.out.below b).write o (1024 - x * 16) (x * 16) (k * 16) s (by have := H6.out; rw [HN.out]; omega) (by omega) ho ho2
      have HF : Hid (PD w2 g h ps Q L (dwL ps l p a s.data.toList) ∧ w.grownBy w2 (some g)) := Lib.hid ⟨by rw [HY.out, hx, Int.toNat_natCast]; exact d2, gtrans (gof b _) g2⟩
      clear hx hk hxk ho ho2 d2 g2 b q0
      go_wp2_with fail
      go_ret
      exact ⟨by rw [HX.out]; rfl, HF.out.1, HF.out.2⟩
    · have e6 : ((N : Int) % 16 != 0) = true := by simp; omega
      have HX : Hid (dwC ps p a s.data.toList = 1900) := Lib.hid (by rw [HW.out, if_pos h0, if_neg h6])
      have HY : Hid (dwL ps l p a s.data.toList = l) := Lib.hid (by rw [HL.out, HX.out, if_neg (by decide)])
      clear h0 h6 HW HL HCC
      go_enter Try.func14, Try.ntmps14
      go_wp2_with fail
      refine HR.out.mono ?_
      rintro e w1 ⟨X, rfl, b, -, -⟩
      have HB := Lib.hid b
      clear b
      go_wp2_with fail
      go_ret
      exact ⟨by rw [HX.out]; rfl, by rw [HY.out]; exact HD.out.below HB.out, gof HB.out _⟩
  · have e0 : (R.2 != 0) = true := by simpa using h0
    have HX : Hid (dwC ps p a s.data.toList = R.2) := Lib.hid (by rw [HW.out, if_neg h0])
    have HY : Hid (dwL ps l p a s.data.toList = l) := Lib.hid (by rw [HL.out, HX.out, if_neg h0])
    clear h0 HW HL HCC
    go_enter Try.func14, Try.ntmps14
    go_wp2_with fail
    refine HR.out.mono ?_
    rintro e w1 ⟨X, rfl, b, -, -⟩
    have HB := Lib.hid b
    clear b
    go_wp2_with fail
    go_ret
    exact ⟨by rw [HX.out]; rfl, by rw [HY.out]; exact HD.out.below HB.out, gof HB.out _⟩
end

end Go.Proofs.Ytjccdimmfhkipaa
