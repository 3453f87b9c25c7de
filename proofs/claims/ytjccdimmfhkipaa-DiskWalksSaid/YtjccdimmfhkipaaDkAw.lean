/-
  Layer 19: calls on a disk that is one of several things; shared, sector, awake.
-/
import Derived.Test.YtjccdimmfhkipaaDk2
import Derived.Test.YtjccdimmfhkipaaPhysStr
import Derived.Test.YtjccdimmfhkipaaNum
namespace Go.Proofs.Ytjccdimmfhkipaa
open Go.RowKit
set_option linter.unusedVariables false
set_option linter.unusedSimpArgs false
set_option maxRecDepth 100000

theorem dwL_no {ps : List (Int × Int)} {l : List UInt8} {p a : Int} {s : List UInt8} (h : dwC ps p a s ≠ 0) : dwL ps l p a s = l := by unfold dwL; rw [if_neg h]

section
variable {S : Nat → Prop} {W0 : World} {os os' : List Ob} {i g : Nat} {ps : List (Int × Int)} {Q : Int} {L : Nat → Int} {l : List UInt8}
theorem tk_dleft (p : Int) (w : World) (t : Tk S W0 os w) (hi : os[i]? = some (obPD g ps Q L l)) (X : Int) (hX : dlX ps.length L p = X) :
    Calls Try.prog 22 #[.pointer (some ⟨g, 0, none⟩), .int .i64 p] w fun e w' => e = .returned (.int .i64 X) ∧ w = w' := by
  obtain ⟨h, d, _⟩ := t.pd hi
  subst hX
  exact dleft_any p d
theorem tk_dopen (p : Int) (w : World) (t : Tk S W0 os w) (hi : os[i]? = some (obPD g ps Q L l)) (C : Int) (hC : doC ps.length p = C) (ho : os.set i (obPD g ps Q (doF ps.length Q L p) l) = os') :
    Calls Try.prog 20 #[.pointer (some ⟨g, 0, none⟩), .int .i64 p] w fun e w' => e = .returned (.int .i64 C) ∧ Tk S W0 os' w' := by
  obtain ⟨h, d, k⟩ := t.pd hi
  subst hC ho
  exact (dopen_any p d).mono fun e w' ⟨h1, h2, h3⟩ => ⟨h1, k w' _ _ h2 h3⟩
theorem tk_dspend (p n : Int) (w : World) (t : Tk S W0 os w) (hi : os[i]? = some (obPD g ps Q L l)) (C : Int) (hC : dsC ps.length L p n = C) (ho : os.set i (obPD g ps Q (dsF ps.length L p n) l) = os') :
    Calls Try.prog 18 #[.pointer (some ⟨g, 0, none⟩), .int .i64 p, .int .i64 n] w fun e w' => e = .returned (.int .i64 C) ∧ Tk S W0 os' w' := by
  obtain ⟨h, d, k⟩ := t.pd hi
  subst hC ho
  exact (dspend_any p n d).mono fun e w' ⟨h1, h2, h3⟩ => ⟨h1, k w' _ _ h2 h3⟩
theorem tk_dread (p a n : Int) (w : World) (t : Tk S W0 os w) (hi : os[i]? = some (obPD g ps Q L l)) (X : ByteArray) (C : Int) (hX : str (drT ps l p a n) = X) (hC : (toC ps p a n).2 = C) :
    Calls Try.prog 16 #[.pointer (some ⟨g, 0, none⟩), .int .i64 p, .int .i64 a, .int .i64 n] w fun e w' => e = .returned (.tuple #[.string X, .int .i64 C]) ∧ Tk S W0 os w' := by
  obtain ⟨h, d, k⟩ := t.pd hi
  subst hC hX
  exact (dread_any p a n d).mono fun e w' ⟨h1, h2⟩ => ⟨h1, t.next h2⟩
theorem tk_dwrite (p a : Int) (s : ByteArray) (w : World) (t : Tk S W0 os w) (hi : os[i]? = some (obPD g ps Q L l)) (hs : s.size ≤ maxLen) (C : Int) (hC : dwC ps p a s.data.toList = C) (ho : os.set i (obPD g ps Q L (dwL ps l p a s.data.toList)) = os') :
    Calls Try.prog 14 #[.pointer (some ⟨g, 0, none⟩), .int .i64 p, .int .i64 a, .string s] w fun e w' => e = .returned (.int .i64 C) ∧ Tk S W0 os' w' := by
  obtain ⟨h, d, k⟩ := t.pd hi
  subst hC ho
  exact (dwrite_any p a s d hs).mono fun e w' ⟨h1, h2, h3⟩ => ⟨h1, k w' _ _ h2 h3⟩
theorem tk_dnew (v : Value) (s q : Int) (w : World) (t : Tk S W0 os w) (h : PtS w v ps) (hE : extB ps s = true) (q0 : 0 ≤ q) (q64 : q ≤ 64) :
    Calls Try.prog 9 #[v, .int .i64 s, .int .i64 q] w fun e w' => ∃ g, e = .returned (.tuple #[.pointer (some ⟨g, 0, none⟩), .int .i64 0]) ∧ Tk S W0 (obPD g ps q (qF q ps.length) (zeros 1024) :: os) w' :=
  (dnew_yes v ps s q w h hE q0 q64).mono fun e w' ⟨g, h1, h2⟩ => ⟨g, h1, t.add (ps := [_]) h2⟩
end

/-- The law's three shares. -/
def shP : List (Int × Int) := [(0, 4), (6, 4), (4, 2)]
theorem shared_any (q : Int) (w : World) (q0 : 0 ≤ q) (q64 : q ≤ 64) :
    Calls Try.prog 24 #[.int .i64 q] w fun e w' => ∃ g, e = .returned (.pointer (some ⟨g, 0, none⟩)) ∧ Tk nos w [obPD g shP q (qF q 3) (zeros 1024)] w' := by
  have HP := Lib.hid (PtS.lit w shP 39 (by decide))
  have HT := Lib.hid ((Tk.empty w).next ((Below.refl _ w).alloc (Nat.le_refl _) (.cells (zpl shP).toArray 39)))
  go_enter Try.func24, Try.ntmps24
  go_wp2_with fail
  refine (tk_dnew _ _ _ _ HT.out HP.out (by kernel_rfl) q0 q64).mono ?_
  rintro e w1 ⟨g, rfl, t⟩
  have HT := Lib.hid (show Tk nos w [obPD g shP q (qF q 3) (zeros 1024)] w1 from t)
  clear t HP
  go_wp2_with fail
  refine (num_any _ _).mono ?_; rintro e w' ⟨rfl, rfl⟩
  go_wp2_with fail
  go_ret
  exact ⟨g, rfl, HT.out⟩

/-- The law's sector of a number. -/
def secY (x : Int) (i : Nat) : UInt8 := UInt8.ofNat ((x + bits BinOp.and IntKind.i64 ((i : Int) * x) 7) % 256).toNat
def secK (x : Int) (k : Nat) : List UInt8 := (List.range k).map (secY x)
theorem secK_len (x : Int) (k : Nat) : (secK x k).length = k := by simp [secK]
theorem secK_step (x : Int) (k : Nat) : secK x (k + 1) = secK x k ++ [secY x k] := by simp [secK, List.range_succ]
set_option maxHeartbeats 1000000 in
theorem sector_any (x : Int) (w : World) (x0 : 0 ≤ x) (x1 : x ≤ 1000) :
    Calls Try.prog 25 #[.int .i64 x] w fun e w' => e = .returned (.string (str (secK x 16))) ∧ Below w.heap.size w w' := by
  go_enter Try.func25, Try.ntmps25
  go_wp2_with fail
  go_loopw [3, 4] (fun s i wr => ∃ (k : Nat) (X : ByteArray), k ≤ 16 ∧ i = .int .i64 k ∧ s = .string X ∧ Hid (str (secK x k) = X ∧ Below w.heap.size w wr)) (fun _ i _ => 16 - (intOf i).toNat)
  case atStart => exact ⟨0, _, by omega, rfl, rfl, Lib.hid ⟨rfl, Below.refl _ _⟩⟩
  case round =>
    obtain ⟨k, X, hk, rfl, rfl, H⟩ := hrel
    by_cases hlt : k < 16
    · have hb := band ((k : Int) * x) 7 (by omega) (by omega)
      have hy : secY x k = UInt8.ofNat ((x + bits BinOp.and IntKind.i64 ((k : Int) * x) 7) % 256).toNat := rfl
      have hkx : (0 : Int) ≤ (k : Int) * x ∧ (k : Int) * x ≤ 16000 := by
        constructor
        · exact Int.mul_nonneg (by omega) x0
        · calc (k : Int) * x ≤ 16 * x := Int.mul_le_mul_of_nonneg_right (by omega) x0
            _ ≤ 16000 := by omega
      have hw : IntKind.i64.wrap ((k : Int) * x) = (k : Int) * x := IntWalk.i64_in _ (by omega)
      generalize hB : bits BinOp.and IntKind.i64 ((k : Int) * x) 7 = B at hb hy
      obtain ⟨b0, b1⟩ := hb
      have hv := fun W => one_str W ((x + B) % 256) (secY x k) (by rw [hy, UInt8.toNat_ofNat']; omega)
      have hX : str (secK x (k + 1)) = X ++ str [secY x k] := by rw [← H.out.1, str_append, secK_step]
      have hXs : X.size = k := by rw [← H.out.1, str_size, secK_len]
      have hp : X.size + (str [secY x k]).size ≤ 9223372036854775807 := by rw [hXs, str_size]; simp; omega
      have HY := Lib.hid hX
      have HB := Lib.hid H.out.2
      have hsz := HB.out.size
      generalize str [secY x k] = Y at *
      clear hX hXs hy H
      go_wp2_with fail
      go_roundw
      case rel => exact ⟨k + 1, _, by omega, by go_num, rfl, Lib.hid ⟨HY.out, HB.out.alloc hsz _⟩⟩
      case measure => simp [intOf]; omega
    · obtain rfl : k = 16 := by omega
      go_wp2_with fail
      go_ret
      exact ⟨by rw [← H.out.1]; rfl, H.out.2⟩

end Go.Proofs.Ytjccdimmfhkipaa
