/-
  The law ConsoleBegins of the console. MADE BY gencnlaws.py.
-/
import Derived.Test.YtobpggpjboonfaaDoorCnAw
namespace Go.Proofs.YtobpggpjboonfaaDoor
open Go.RowKit Go.Lib
set_option linter.unusedVariables false
set_option linter.unusedSimpArgs false
set_option maxRecDepth 100000

set_option maxHeartbeats 2000000 in
theorem law_ConsoleBegins (s0 s1 : ByteArray) (hz0 : s0.size ≤ 140737488351232) (hz1 : s1.size ≤ 140737488351232) (W : World) (he : Env W) :
    Calls Tryd.prog 4 #[.string s0, .string s1] W fun e w' => e = .returned (.bool true) ∧ Below W.heap.size W w' := by
  obtain ⟨F, hF⟩ : ∃ F, str F = s0 := ⟨_, str_of s0⟩
  obtain ⟨R, hR⟩ : ∃ R, str R = s1 := ⟨_, str_of s1⟩
  have hFl : s0.size = F.length := by rw [← hF, str_size]
  have hRl : s1.size = R.length := by rw [← hR, str_size]
  obtain ⟨A, hA⟩ : ∃ Z, str (F ++ [10]) = Z := ⟨_, rfl⟩
  obtain ⟨B, hB⟩ : ∃ Z, str ((F ++ [10]) ++ R) = Z := ⟨_, rfl⟩
  have aA : ∀ wx, (Op.stringOp .add s0 ⟨#[10]⟩).run Tryd.prog wx = .ok (.string A) wx := add_eq F [10] A s0 ⟨#[10]⟩ hF rfl hA (by simp only [List.length_cons, List.length_nil]; omega)
  have aB : ∀ wx, (Op.stringOp .add A s1).run Tryd.prog wx = .ok (.string B) wx := add_eq (F ++ [10]) R B A s1 hA hR hB (by simp only [List.length_append, List.length_cons, List.length_nil]; omega)
  have hBs : B.size = F.length + 1 + R.length := by rw [← hB, str_size]; simp; omega
  have hBm : B.size ≤ 9223372036854775807 := by omega
  have B0 := Lib.hid (Below.refl W.heap.size W)
  have HR1 : Hid (∀ w, Env w → Calls Tryd.prog 11 #[.string A] w fun e w' => ∃ S c, e = .returned (.tuple #[.string S, .int .i64 c]) ∧ Below w.heap.size w w') := Lib.hid (fun w h => by
    by_cases hl : F.length + 1 ≤ 65536
    · have := run_any (F ++ [10]) w h (by simp only [List.length_append, List.length_cons, List.length_nil]; omega)
      rw [hA] at this
      exact this.mono (fun e w' h => ⟨_, _, h⟩)
    · have := run_long (F ++ [10]) w (by simp only [List.length_append, List.length_cons, List.length_nil]; omega) (by simp only [List.length_append, List.length_cons, List.length_nil]; omega)
      rw [hA] at this
      exact this.mono (fun e w' h => ⟨_, _, h.1, h.2 ▸ Below.refl _ _⟩))
  by_cases hl : 65536 < B.size
  · have HR2 : Hid (∀ w, Calls Tryd.prog 11 #[.string B] w fun e w' => e = .returned (.tuple #[.string ⟨#[]⟩, .int .i64 2501]) ∧ w = w') := Lib.hid (fun w => by
      have := run_long ((F ++ [10]) ++ R) w (by simp only [List.length_append, List.length_cons, List.length_nil]; omega) (by simp only [List.length_append, List.length_cons, List.length_nil]; omega)
      rw [hB] at this
      exact this)
    clear hF hR hFl hRl hA hB hBs hz0 hz1
    go_enter Tryd.func4, Tryd.ntmps4
    go_wp2_with fail
    refine (cawake_any _ he).mono ?_
    rintro e w1 ⟨rfl, b1⟩
    have B1 := Lib.hid (B0.out.trans (b1.mono B0.out.size))
    have HE1 := Lib.hid (he.below B1.out)
    clear b1
    go_wp2_with fail
    refine (HR1.out _ HE1.out).mono ?_
    rintro e w2 ⟨S, c, rfl, b2⟩
    have B2 := Lib.hid (B1.out.trans (b2.mono B1.out.size))
    clear b2
    go_wp2_with fail
    refine (HR2.out _).mono ?_
    rintro e w3 ⟨rfl, rfl⟩
    go_wp2_with (go_at_call 12; refine (num_any _ _).mono ?_; rintro e wn ⟨rfl, rfl⟩)
    go_ret
    exact ⟨rfl, B2.out⟩
  · obtain ⟨S, hS⟩ : ∃ Z, str (rnS F) = Z := ⟨_, rfl⟩
    obtain ⟨T, hT⟩ : ∃ Z, str (rnS F ++ rnS R) = Z := ⟨_, rfl⟩
    have HR1 : Hid (∀ w, Env w → Calls Tryd.prog 11 #[.string A] w fun e w' => e = .returned (.tuple #[.string S, .int .i64 0]) ∧ Below w.heap.size w w') := Lib.hid (fun w h => by
      have := run_any (F ++ [10]) w h (by simp only [List.length_append, List.length_cons, List.length_nil]; omega)
      rw [hA, rnS_lf, hS] at this
      exact this)
    have HR2 : Hid (∀ w, Env w → Calls Tryd.prog 11 #[.string B] w fun e w' => e = .returned (.tuple #[.string T, .int .i64 0]) ∧ Below w.heap.size w w') := Lib.hid (fun w h => by
      have := run_any ((F ++ [10]) ++ R) w h (by simp only [List.length_append, List.length_cons, List.length_nil]; omega)
      rw [hB, show (F ++ [10]) ++ R = F ++ 10 :: R by simp, rnS_app, hT] at this
      exact this)
    have hSs : S.size = (rnS F).length := by rw [← hS, str_size]
    have hTs : T.size = (rnS F).length + (rnS R).length := by rw [← hT, str_size]; simp
    have hfl : (rnS F).length ≤ 6000 * 65537 := by
      have h1 := flat_lnS_len (lns10 [] F)
      have h2 := lns10_count F []
      unfold rnS; omega
    have hfr : (rnS R).length ≤ 6000 * 65537 := by
      have h1 := flat_lnS_len (lns10 [] R)
      have h2 := lns10_count R []
      unfold rnS; omega
    have hsl : ∀ wx, (Instr.slice 9 (.string T) none (some (.int .i64 (S.size : Int))) none).run Tryd.prog wx = .ok (.string S) wx := fun wx => by
      have := stx_h (rnS F ++ rnS R) (rnS F).length (by simp) wx
      rw [hT, List.take_left, hS, ← hSs] at this
      exact this
    have hST : S.size ≤ T.size := by omega
    have hTm : T.size ≤ 9223372036854775807 := by omega
    have hle : decide ((S.size : Int) ≤ (T.size : Int)) = true := decide_eq_true (by omega)
    clear hF hR hFl hRl hA hB hBs hz0 hz1 hSs hTs hfl hfr hS hT hl
    go_enter Tryd.func4, Tryd.ntmps4
    go_wp2_with fail
    refine (cawake_any _ he).mono ?_
    rintro e w1 ⟨rfl, b1⟩
    have B1 := Lib.hid (B0.out.trans (b1.mono B0.out.size))
    have HE1 := Lib.hid (he.below B1.out)
    clear b1
    go_wp2_with fail
    refine (HR1.out _ HE1.out).mono ?_
    rintro e w2 ⟨rfl, b2⟩
    have B2 := Lib.hid (B1.out.trans (b2.mono B1.out.size))
    have HE2 := Lib.hid (he.below B2.out)
    clear b2
    go_wp2_with fail
    refine (HR2.out _ HE2.out).mono ?_
    rintro e w3 ⟨rfl, b3⟩
    have B3 := Lib.hid (B2.out.trans (b3.mono B2.out.size))
    have HE3 := Lib.hid (he.below B3.out)
    clear b3
    go_wp2_with (go_at_call 12; refine (num_any _ _).mono ?_; rintro e wn ⟨rfl, rfl⟩)
    go_ret
    exact ⟨rfl, B3.out⟩

end Go.Proofs.YtobpggpjboonfaaDoor
