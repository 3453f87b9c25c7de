/-
  Contracts of package ring: framesOf, has, checkBuffer, checkOne, Check.
-/
import Derived.Test.YtcjmgjdejljjkaaRi0
import Derived.Test.YtcjmgjdejljjkaaOb
import Derived.Test.YtcjmgjdejljjkaaSplit
import Derived.Test.YtcjmgjdejljjkaaDeAwake
import Derived.Test.YtcjmgjdejljjkaaChecked
namespace Go.Proofs.Ytcjmgjdejljjkaa
open Go.RowKit
set_option linter.unusedVariables false
set_option linter.unusedSimpArgs false
set_option maxRecDepth 100000

def zFs : Array Value := (bitc noB 64).toArray
theorem zFs_ne : ¬ (zFs = #[]) := by simp [zFs, bitc]
theorem zFs_run (w : World) : Sem.run Try.prog (zeroValue 67) w = .ok (.agg zFs) w := by
  have hi : (Try.prog.info? 67).map (fun i => i.zero) = some (some (.agg zFs)) := by kernel_rfl
  cases h : Try.prog.info? 67 with
  | none => rw [h] at hi; cases hi
  | some i =>
    rw [h] at hi
    simp only [Option.map_some, Option.some.injEq] at hi
    simp [zeroValue, typeInfo, h, hi]

/-- A set of frames at block g. -/
def FS (w : World) (g : Nat) (fs : List Int) : Prop := ∃ F, setB fs F ∧ Blk w g 67 (bitc F 64)
section
variable {w w' : World} {g : Nat} {fs : List Int}
theorem FS.lt (h : FS w g fs) : g < w.heap.size := by obtain ⟨F, _, h⟩ := h; exact h.lt
theorem FS.below (h : FS w g fs) (hb : Below w.heap.size w w') : FS w' g fs := by obtain ⟨F, h1, h⟩ := h; exact ⟨F, h1, h.below hb h.lt⟩
theorem FS.drewN (h : FS w g fs) (n : Nat) : FS (w.drewN n) g fs := h
theorem FS.alloc (h : FS w g fs) (o : Obj) : FS (w.alloc o) g fs := by obtain ⟨F, h1, h⟩ := h; exact ⟨F, h1, h.alloc o⟩
theorem FS.cell (h : FS w g fs) (i : Nat) (hi : i < 64) : w.cell? ⟨g, i, none⟩ = some (.bool (fs.contains (i : Int))) := by
  obtain ⟨F, h1, h⟩ := h
  rw [h.cell, bitc_get _ _ _ hi, h1 i hi]
theorem FS.step {k f : Nat} (h : FS w g (fs.take k)) (hk : k < fs.length) (hf : fs.getD k 0 = (f : Int)) : FS (w.setCell ⟨g, f, none⟩ (.bool true)) g (fs.take (k + 1)) := by
  obtain ⟨F, h1, h⟩ := h
  exact ⟨_, setB_in h1 hk hf, by rw [← bitc_set]; exact h.set f _⟩
theorem FS.pass {k : Nat} (h : FS w g (fs.take k)) (hk : k < fs.length) (hf : fs.getD k 0 < 0 ∨ 64 ≤ fs.getD k 0) : FS w g (fs.take (k + 1)) := by
  obtain ⟨F, h1, h⟩ := h
  exact ⟨F, setB_out h1 hk hf, h⟩
theorem FS.some_cell (h : FS w g fs) (i : Nat) (hi : i < 64) : ∃ b, w.cell? ⟨g, i, none⟩ = some (.bool b) := ⟨_, h.cell i hi⟩
theorem FS.frozen (h : FS w g fs) (i : Nat) : w.frozen? ⟨g, i, none⟩ = false := by obtain ⟨F, _, h⟩ := h; exact h.frozen i
end

theorem framesOf_any (v : Value) (n : Nat) (fs : List Int) (w : World) (hs : Sl w v n 1 (ints fs)) (hl : fs.length = n) (hn : n ≤ maxLen) :
    Calls Try.prog 26 #[v] w fun e w' => ∃ g, e = .returned (.pointer (some ⟨g, 0, none⟩)) ∧ FS w' g fs ∧ Below w.heap.size w w' := by
  unfold maxLen at hn
  obtain ⟨A, cap, rfl, hc, hxl, hA⟩ := hs
  have HA := Lib.hid hA; clear hA hxl
  have hz := zFs_run w
  have hne := zFs_ne
  have c0 : FS (w.alloc (.cells zFs 67)) w.heap.size (fs.take 0) := ⟨noB, setB_nil, Blk.new w _ (bitc noB 64)⟩
  have b0 : Below w.heap.size w (w.alloc (.cells zFs 67)) := (Below.refl _ _).alloc (Nat.le_refl _) _
  go_enter Try.func26, Try.ntmps26
  go_wp2_with fail
  clear hz hne
  go_loopw [10] (fun i wr => ∃ k : Nat, k ≤ n ∧ i = .int .i64 k ∧ Hid (FS wr w.heap.size (fs.take k) ∧ Below w.heap.size w wr)) (fun i _ => n - (intOf i).toNat)
  case atStart => exact ⟨0, by omega, rfl, Lib.hid ⟨c0, b0⟩⟩
  case round =>
    obtain ⟨k, hk, rfl, H⟩ := hrel
    by_cases hlt : k < n
    · obtain ⟨b, o, rfl, hb, hcell⟩ := HA.out (by omega)
      have hck := (H.out.2.cell (p := ⟨b, o + k, none⟩) hb).trans (hcell k _ (ints_get fs k (by omega)))
      have hkl : k < fs.length := by omega
      clear hcell
      obtain ⟨q, hq⟩ : ∃ q, fs.getD k 0 = q := ⟨_, rfl⟩
      rw [hq] at hck
      by_cases hq2 : 0 ≤ q ∧ q < 64
      · obtain ⟨h0, h1⟩ := hq2
        obtain ⟨f, rfl⟩ := Int.eq_ofNat_of_zero_le h0
        have hf := H.out.1.some_cell f (by omega)
        obtain ⟨bb, hfc⟩ := hf
        have hfz := H.out.1.frozen f
        have h64 : f < 64 := by omega
        have HS := Lib.hid (H.out.1.step hkl hq)
        have HB := Lib.hid (H.out.2.setCell (p := ⟨w.heap.size, f, none⟩) (Nat.le_refl _) (.bool true))
        clear H
        go_wp2_with fail
        go_roundw
        case rel => exact ⟨k + 1, by omega, by go_num, Lib.hid ⟨HS.out, HB.out⟩⟩
        case measure => simp [intOf]; omega
      · have HS := Lib.hid (H.out.1.pass hkl (by omega))
        have HB := Lib.hid H.out.2
        clear H
        have hw : q < 0 ∨ (0 ≤ q ∧ 64 ≤ q) := by omega
        clear hq2
        rcases hw with hw | ⟨hw, hw2⟩
        all_goals
          go_wp2_with fail
          go_roundw
          case rel => exact ⟨k + 1, by omega, by go_num, Lib.hid ⟨HS.out, HB.out⟩⟩
          case measure => simp [intOf]; omega
    · go_wp2
      go_ret
      exact ⟨_, rfl, by have := H.out.1; rw [show k = fs.length by omega, List.take_length] at this; exact this, H.out.2⟩

theorem has_any (g f : Nat) (fs : List Int) (w : World) (h : FS w g fs) (hf : f < 64) :
    Calls Try.prog 28 #[.pointer (some ⟨g, 0, none⟩), .int .i64 f] w fun e w' => e = .returned (.bool (fs.contains (f : Int))) ∧ w = w' := by
  have hc := h.cell f hf
  have hi : (f : Int) < 64 := by omega
  generalize fs.contains (f : Int) = B at *
  clear h
  go_enter Try.func28, Try.ntmps28
  go_wp2_with fail
  go_ret
  exact ⟨rfl, rfl⟩

/-- A piece's frame is one that there may be. -/
theorem spl_frame (X M k : Nat) (h : X + M ≤ 4096) (hk : k < (spl X M).length) : ((spl X M)[k]'hk).1 < 64 := by
  have h1 := spl_at M X k hk
  have h2 := pre_step (spl X M) k hk
  have h3 := pre_le M X (k + 1) (by omega)
  omega

/-- The value of a set's method. -/
def hasV (g : Nat) : Value := .func (.func 28) #[.pointer (some ⟨g, 0, none⟩)] #[]

set_option maxHeartbeats 2000000 in
theorem checkBuffer_any (o x l b n : Int) (g : Nat) (fs : List Int) (w : World) (h : FS w g fs) (hb0 : 0 ≤ b) (hb1 : b ≤ 65535) (hn0 : 1 ≤ n) (hn1 : n ≤ 4) :
    Calls Try.prog 36 #[.agg #[.int .i64 o, .int .i64 x, .int .i64 l, .int .i64 b, .int .i64 n], .func (.func 28) #[.pointer (some ⟨g, 0, none⟩)] #[]] w fun e w' => e = .returned (.int .i64 (e17 (bufB b n fs))) ∧ Below w.heap.size w w' := by
  have h1 := h.alloc (.cells #[.int .i64 o, .int .i64 x, .int .i64 l, .int .i64 b, .int .i64 n] 42)
  have b1 : Below w.heap.size w (w.alloc (.cells #[.int .i64 o, .int .i64 x, .int .i64 l, .int .i64 b, .int .i64 n] 42)) := (Below.refl _ _).alloc (Nat.le_refl _) _
  by_cases hm : b + n * 16 ≤ 4096
  · obtain ⟨L, hL⟩ : ∃ L, spl b.toNat (n * 16).toNat = L := ⟨_, rfl⟩
    have hR : bufB b n fs = okF fs (L.drop 0) := by unfold bufB; rw [hL, decide_eq_true hm, List.drop_zero]; rfl
    obtain ⟨R, hR2⟩ : ∃ R, okF fs (L.drop 0) = R := ⟨_, rfl⟩
    rw [hR, hR2]
    have HR := Lib.hid hR2
    have HLF : Hid (∀ k (hk : k < L.length), (L[k]'hk).1 < 64) := Lib.hid (by intro k hk; subst hL; exact spl_frame _ _ _ (by omega) hk)
    have hLl : L.length ≤ 64 := by have := spl_len (n * 16).toNat b.toNat; rw [hL] at this; omega
    have HL := Lib.hid hL
    clear hR hR2 hL h
    go_enter Try.func36, Try.ntmps36
    go_wp2_with fail
    generalize w.alloc (.cells #[.int .i64 o, .int .i64 x, .int .i64 l, .int .i64 b, .int .i64 n] 42) = wa at *
    refine (split_yes b (n * 16) _ hb0 (by omega) hm).mono ?_
    rw [HL.out]
    rintro e w1 ⟨v, rfl, hown, b2⟩
    have hsl := Sl.own hown
    have HF := Lib.hid (h1.below b2)
    have HB := Lib.hid (Below.down b1 b2 b1.size)
    have hs1 := HB.out.size
    obtain ⟨A, cap, rfl, hc, hxl, hA⟩ := hsl
    have HA := Lib.hid hA
    clear h1 b1 b2 hown hA
    go_wp2_with fail
    go_loopw [22] (fun i wr => ∃ k : Nat, k ≤ L.length ∧ i = .int .i64 k ∧ Hid (okF fs (L.drop k) = R ∧ Below w1.heap.size w1 wr)) (fun i _ => L.length - (intOf i).toNat)
    case atStart => exact ⟨0, by omega, rfl, Lib.hid ⟨HR.out, Below.refl _ _⟩⟩
    case round =>
      obtain ⟨k, hk, rfl, H⟩ := hrel
      by_cases hlt : k < L.length
      · obtain ⟨bb, oo, rfl, hbb, hcell⟩ := HA.out (by omega)
        have f := flat_get L k hlt
        have a0 := (H.out.2.cell (p := ⟨bb, oo + k * 3, none⟩) hbb).trans (hcell _ _ f.1)
        have a1 := (H.out.2.cell (p := ⟨bb, oo + (k * 3 + 1), none⟩) hbb).trans (hcell _ _ f.2.1)
        have a2 := (H.out.2.cell (p := ⟨bb, oo + (k * 3 + 2), none⟩) hbb).trans (hcell _ _ f.2.2)
        simp only [← Nat.add_assoc] at a1 a2
        have hfr := HLF.out k hlt
        have hst := okF_step fs L k hlt
        rw [H.out.1] at hst
        obtain ⟨q, hq⟩ : ∃ q, L[k].1 = q := ⟨_, rfl⟩
        rw [hq] at a0 hst hfr
        have HST := Lib.hid hst
        generalize L[k].2.1 = q1 at a1
        generalize L[k].2.2 = q2 at a2
        have hwr := H.out.2.size
        have HFr := Lib.hid (HF.out.below H.out.2)
        have HBr := Lib.hid (H.out.2.alloc hwr (.cells #[.int .i64 q, .int .i64 q1, .int .i64 q2] 73))
        clear hcell f hst hq H
        go_wp2_with fail
        refine (has_any g q fs _ (HFr.out.alloc _) hfr).mono ?_
        rintro e w' ⟨rfl, rfl⟩
        cases hcon : fs.contains (q : Int)
        · have hRf : R = false := by rw [HST.out, hcon]; rfl
          have HRF := Lib.hid hRf
          have HBB := Lib.hid ((HB.out).trans (HBr.out.mono hs1))
          clear hRf HBr HB
          go_wp2_with fail
          go_ret
          rw [HRF.out]
          exact ⟨rfl, HBB.out⟩
        · have hRt : okF fs (L.drop (k + 1)) = R := by rw [HST.out, hcon]; rfl
          have HRT := Lib.hid hRt
          clear hRt
          go_wp2_with fail
          go_roundw
          case rel => exact ⟨k + 1, by omega, by go_num, Lib.hid ⟨HRT.out, HBr.out⟩⟩
          case measure => simp [intOf]; omega
      · go_wp2
        go_ret
        exact ⟨by rw [← H.out.1, okF_end _ _ _ (by omega)]; rfl, HB.out.trans (H.out.2.mono hs1)⟩
  · have hR : bufB b n fs = false := by unfold bufB; rw [decide_eq_false hm]; rfl
    rw [hR]
    have hno : ¬ (0 ≤ b ∧ 0 ≤ n * 16 ∧ b ≤ 4096 ∧ n * 16 ≤ 4096 - b) := by omega
    have HNO := Lib.hid hno
    clear hR h1 hno hm
    go_enter Try.func36, Try.ntmps36
    go_wp2_with fail
    refine (split_no b (n * 16) _ HNO.out).mono ?_
    rintro e w' ⟨rfl, rfl⟩
    go_wp2_with fail
    go_ret
    exact ⟨rfl, b1⟩

end Go.Proofs.Ytcjmgjdejljjkaa
