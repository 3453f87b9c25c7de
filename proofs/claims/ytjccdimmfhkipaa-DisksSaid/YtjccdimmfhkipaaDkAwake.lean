/-
  Layer 19's awake.
-/
import Derived.Test.YtjccdimmfhkipaaDkAw
namespace Go.Proofs.Ytjccdimmfhkipaa
open Go.RowKit
set_option linter.unusedVariables false
set_option linter.unusedSimpArgs false
set_option maxRecDepth 100000

def awP : List (Int × Int) := [(2, 2), (0, 2)]
def awS : ByteArray := ⟨#[48, 49, 50, 51, 52, 53, 54, 55, 56, 57, 97, 98, 99, 100, 101, 102]⟩
theorem nil_pts (w : World) : PtS w (.slice none 0 0) [] := ⟨none, 0, rfl, by simp [maxLen], fun h => absurd h (by simp)⟩
theorem make32 (W : World) : (Instr.makeSlice 56 (.int .i64 32) (.int .i64 32)).run Try.prog W = .ok (.slice (some ⟨W.heap.size, 0, none⟩) 32 32) (W.alloc (.cells (bts (zeros 32)).toArray 5)) := make_u8 W 32 (by omega)
theorem make16 (W : World) : (Instr.makeSlice 56 (.int .i64 16) (.int .i64 16)).run Try.prog W = .ok (.slice (some ⟨W.heap.size, 0, none⟩) 16 16) (W.alloc (.cells (bts (zeros 16)).toArray 5)) := make_u8 W 16 (by omega)
theorem aw_read : drT awP (dwL awP (zeros 1024) 0 1 awS.data.toList) 0 0 2 = zeros 16 ++ awS.data.toList := by kernel_rfl

set_option maxHeartbeats 4000000 in
theorem dkawake_any (w : World) :
    Calls Try.prog 12 #[] w fun e w' => e = .returned (.bool true) ∧ Below w.heap.size w w' := by
  have HP := Lib.hid (PtS.lit w awP 39 (by decide))
  have HT := Lib.hid ((Tk.empty w).next ((Below.refl _ w).alloc (Nat.le_refl _) (.cells (zpl awP).toArray 39)))
  have hm32 := make32
  have hm16 := make16
  have hc32 := fun W => make_str W 32 (by omega)
  have hc16 := fun W => make_str W 16 (by omega)
  have HR : Hid (str (drT awP (dwL awP (zeros 1024) 0 1 awS.data.toList) 0 0 2) = str (zeros 16) ++ awS) := Lib.hid (by rw [aw_read, ← str_append, str_of])
  have HW1 : Hid (dwC awP 0 1 awS.data.toList = 0) := Lib.hid (by kernel_rfl)
  have HW2 : Hid (dwC awP 0 1 (str (zeros 32)).data.toList = 1801) := Lib.hid (by kernel_rfl)
  have HW3 : Hid (dwC awP 0 1 (⟨#[120]⟩ : ByteArray).data.toList = 1900) := Lib.hid (by kernel_rfl)
  have h16 : (str (zeros 16)).size + awS.size ≤ 9223372036854775807 := by rw [str_size, zeros_len]; decide
  have HZ32 : Hid ((str (zeros 32)).size ≤ maxLen) := Lib.hid (by rw [str_size, zeros_len]; decide)
  obtain ⟨l1, hl1⟩ : ∃ x, dwL awP (zeros 1024) 0 1 awS.data.toList = x := ⟨_, rfl⟩
  have HL1 := Lib.hid hl1
  rw [hl1] at HR
  clear hl1
  generalize zeros 32 = Z32 at *
  generalize str Z32 = S32 at *
  generalize zeros 16 = Z16 at *
  generalize str Z16 = S16 at *
  obtain ⟨X, hX⟩ : ∃ X, S16 ++ awS = X := ⟨_, rfl⟩
  rw [hX] at HR
  unfold awS at hX h16
  go_enter Try.func12, Try.ntmps12
  go_wp2_with fail
  refine (tk_dnew _ _ _ _ HT.out HP.out (by kernel_rfl) (by decide) (by decide)).mono ?_
  rintro e w1 ⟨g, rfl, t⟩
  have HT := Lib.hid (show Tk nos w [obPD g awP 3 (qF 3 2) (zeros 1024)] w1 from t)
  clear t HP
  go_wp2_with fail
  refine (dnew_no _ [] _ _ _ (nil_pts _) (by intro h; exact absurd h.1 (by decide))).mono ?_
  rintro e w2 ⟨rfl, b⟩
  have HT := Lib.hid (HT.out.next b)
  clear b
  go_wp2_with fail
  refine (num_any _ _).mono ?_; rintro e w' ⟨rfl, rfl⟩
  go_wp2_with fail
  refine (tk_dwrite (i := 0) 0 1 awS _ HT.out rfl (by decide) 0 HW1.out rfl).mono ?_
  rintro e w3 ⟨rfl, t⟩
  rw [HL1.out] at t
  have HT := Lib.hid (show Tk nos w [obPD g awP 3 (qF 3 2) l1] w3 from t)
  clear t
  go_wp2_with fail
  refine (tk_dread (i := 0) 0 0 2 _ HT.out rfl X 0 HR.out (by kernel_rfl)).mono ?_
  rintro e w4 ⟨rfl, t⟩
  have HT := Lib.hid (t.next ((Below.refl _ w4).alloc (Nat.le_refl _) (.cells (bts Z32).toArray 5)))
  clear t
  go_wp2_with fail
  refine (tk_dwrite (i := 0) 0 1 S32 _ HT.out rfl HZ32.out 1801 HW2.out rfl).mono ?_
  rintro e w5 ⟨rfl, t⟩
  rw [dwL_no (by rw [HW2.out]; decide)] at t
  have HT := Lib.hid (show Tk nos w [obPD g awP 3 (qF 3 2) l1] w5 from t)
  clear t
  go_wp2_with fail
  refine (tk_dwrite (i := 0) 0 1 ⟨#[120]⟩ _ HT.out rfl (by decide) 1900 HW3.out rfl).mono ?_
  rintro e w6 ⟨rfl, t⟩
  rw [dwL_no (by rw [HW3.out]; decide)] at t
  have HT := Lib.hid (show Tk nos w [obPD g awP 3 (qF 3 2) l1] w6 from t)
  clear t
  go_wp2_with fail
  refine (tk_dspend (i := 0) 0 2 _ HT.out rfl 0 (by kernel_rfl) rfl).mono ?_
  rintro e w7 ⟨rfl, t⟩
  obtain ⟨L1, hL1⟩ : ∃ F, dsF awP.length (qF 3 2) 0 2 = F := ⟨_, rfl⟩
  have HL := Lib.hid hL1
  rw [hL1] at t
  have HT := Lib.hid (show Tk nos w [obPD g awP 3 L1 l1] w7 from t)
  clear t hL1
  go_wp2_with fail
  refine (tk_dspend (i := 0) 0 2 _ HT.out rfl 1901 (by rw [← HL.out]; kernel_rfl) rfl).mono ?_
  rintro e w8 ⟨rfl, t⟩
  have hL2 : dsF awP.length L1 0 2 = L1 := by rw [← HL.out]; rfl
  rw [hL2] at t
  have HT := Lib.hid (show Tk nos w [obPD g awP 3 L1 l1] w8 from t)
  clear t hL2
  go_wp2_with fail
  refine (tk_dleft (i := 0) 0 _ HT.out rfl 1 (by rw [← HL.out]; kernel_rfl)).mono ?_
  rintro e w' ⟨rfl, rfl⟩
  go_wp2_with fail
  refine (tk_dopen (i := 0) 0 _ HT.out rfl 0 (by kernel_rfl) rfl).mono ?_
  rintro e w9 ⟨rfl, t⟩
  obtain ⟨L2, hL2⟩ : ∃ F, doF awP.length 3 L1 0 = F := ⟨_, rfl⟩
  have HL2 := Lib.hid hL2
  rw [hL2] at t
  have HT := Lib.hid (show Tk nos w [obPD g awP 3 L2 l1] w9 from t)
  clear t hL2
  have HT := Lib.hid (HT.out.next ((Below.refl _ w9).alloc (Nat.le_refl _) (.cells (bts Z16).toArray 5)))
  go_wp2_with (go_at_call 11; refine (num_any _ _).mono ?_; rintro e w' ⟨rfl, rfl⟩)
  refine (tk_dleft (i := 0) 0 _ HT.out rfl 3 (by rw [← HL2.out]; kernel_rfl)).mono ?_
  rintro e w' ⟨rfl, rfl⟩
  go_wp2_with fail
  refine (tk_dleft (i := 0) 2 _ HT.out rfl 0 (by kernel_rfl)).mono ?_
  rintro e w' ⟨rfl, rfl⟩
  go_wp2_with fail
  go_ret
  exact ⟨rfl, HT.out.below⟩

end Go.Proofs.Ytjccdimmfhkipaa
