/-
  Layer 18's law Extents: it answers true for every input.
-/
import Derived.Test.YtegclnaibbkelaaExAwake
import Derived.Test.YtegclnaibbkelaaEx4
import Derived.Test.YtegclnaibbkelaaExArgs
namespace Go.Proofs.Ytegclnaibbkelaa
open Go.RowKit
set_option linter.unusedVariables false
set_option linter.unusedSimpArgs false
set_option maxRecDepth 100000

set_option maxHeartbeats 4000000 in
theorem law_Extents (u : Value) (s p a k : Int) (w : World) (h : ∃ l, PaS w u l ∧ PaZ l) :
    Calls Try.prog 3 #[u, .int .i64 s, .int .i64 p, .int .i64 a, .int .i64 k] w fun e w' => e = .returned (.bool true) ∧ Below w.heap.size w w' := by
  obtain ⟨l, hs, hz⟩ := h
  have HS := Lib.hid hs; have HZ := Lib.hid hz
  obtain ⟨B, hB⟩ : ∃ B, extB (l.map Pa.fc) s = B := ⟨_, rfl⟩
  obtain ⟨R, hR⟩ : ∃ R, toC (l.map Pa.fc) p a k = R := ⟨_, rfl⟩
  obtain ⟨R1, R2⟩ := R
  have H1 := Lib.hid (fun v W (h : PtS W v (l.map Pa.fc)) => to_is v (l.map Pa.fc) p a k W h R1 R2 hR)
  have H2 := Lib.hid (fun v W (h : PtS W v (l.map Pa.fc)) => (rto_any v (l.map Pa.fc) p a k W h))
  have H3 := Lib.hid (fun v W (h : PtS W v (l.map Pa.fc)) => extmay_is v (l.map Pa.fc) s W h B hB)
  have H4 := Lib.hid (fun v W (h : PtS W v (l.map Pa.fc)) => rextmay_any v (l.map Pa.fc) s W h)
  have HR := Lib.hid hR; have HBB := Lib.hid hB
  have e1 : (R1 == R1) = true := by simp
  have e2 : (R2 == R2) = true := by simp
  have e3 : (B == B) = true := by simp
  clear hs hz hB hR
  go_enter Try.func3, Try.ntmps3
  go_wp2_with fail
  refine (copy_parts u l _ HS.out HZ.out).mono ?_
  rintro e w1 ⟨x, rfl, ho, hb⟩
  have HX := Lib.hid ho.pas; have HB := Lib.hid hb
  clear ho hb
  go_wp2_with fail
  refine (H1.out _ _ (HX.out.pts HZ.out)).mono ?_
  rintro e w2 ⟨rfl, b⟩
  have HX := Lib.hid (HX.out.below b); have HB := Lib.hid (Below.down HB.out b HB.out.size)
  clear b
  go_wp2_with fail
  refine (H2.out _ _ ((HS.out.below HB.out).pts HZ.out)).mono ?_
  rw [HR.out]
  rintro e w3 ⟨rfl, b⟩
  have HX := Lib.hid (HX.out.below b); have HB := Lib.hid (Below.down HB.out b HB.out.size)
  clear b
  go_wp2_with fail
  refine (num_any _ _).mono ?_; rintro e w' ⟨rfl, rfl⟩
  go_wp2_with fail
  refine (H3.out _ _ (HX.out.pts HZ.out)).mono ?_
  rintro e w4 ⟨rfl, b⟩
  have HX := Lib.hid (HX.out.below b); have HB := Lib.hid (Below.down HB.out b HB.out.size)
  clear b
  go_wp2_with fail
  refine (H4.out _ _ ((HS.out.below HB.out).pts HZ.out)).mono ?_
  rw [HBB.out]
  rintro e w5 ⟨rfl, b⟩
  have HX := Lib.hid (HX.out.below b); have HB := Lib.hid (Below.down HB.out b HB.out.size)
  clear b
  go_wp2_with fail
  refine (same_parts _ _ l _ HX.out (HS.out.below HB.out) HZ.out).mono ?_
  rintro e w6 ⟨rfl, q, rfl⟩
  have HB := Lib.hid (bdrewN HB.out q)
  clear HX
  generalize w5.drewN q = w6 at HB
  go_wp2_with fail
  refine (exawake_any _).mono ?_
  rintro e w7 ⟨rfl, b⟩
  have HB := Lib.hid (Below.down HB.out b HB.out.size)
  clear b
  go_wp2_with fail
  go_ret
  exact ⟨rfl, HB.out⟩

end Go.Proofs.Ytegclnaibbkelaa
