/-
  Contracts of package tlb: New, mayStand, Get, add, remove, Put, Drop, DropAll.
-/
import Derived.Test.YtiegonnnokldkaaTlb3
import Derived.Test.YtiegonnnokldkaaPte1
namespace Go.Proofs.Ytiegonnnokldkaa
open Go.RowKit
set_option linter.unusedVariables false

theorem tnew_no (c : Int) (w : World) (h : ¬ (1 ≤ c ∧ c ≤ 16)) :
    Calls Try.prog 7 #[.int .i64 c] w fun e w' => e = .returned (.tuple #[.pointer none, .int .i64 600]) ∧ w = w' := by
  by_cases h1 : c < 1
  · clear h
    go_enter Try.func7, Try.ntmps7
    go_wp2
    go_ret2
    exact ⟨rfl, rfl⟩
  · have h2 : 16 < c := by omega
    clear h
    go_enter Try.func7, Try.ntmps7
    go_wp2
    go_ret2
    exact ⟨rfl, rfl⟩

/-- The cells of a new one: kept closed to the walk. -/
def zTlb : Array Value := (Value.int .i64 0 :: List.replicate 69 (Value.int .i64 0)).toArray
theorem zTlb_ne : ¬ (zTlb = #[]) := by simp [zTlb]
theorem zTlb_run (w : World) : Sem.run Try.prog (zeroValue 54) w = .ok (.agg zTlb) w := by
  have hi : (Try.prog.info? 54).map (fun i => i.zero) = some (some (.agg zTlb)) := by kernel_rfl
  cases h : Try.prog.info? 54 with
  | none => rw [h] at hi; cases hi
  | some i =>
    rw [h] at hi
    simp only [Option.map_some, Option.some.injEq] at hi
    simp [zeroValue, typeInfo, h, hi]
theorem zTlb_set (c : Int) : zTlb.setIfInBounds 0 (.int .i64 c) = (ints (c :: 0 :: (lns [] ++ List.replicate 68 0))).toArray := by
  simp [zTlb, ints, lns_nil]

theorem tnew_yes (c : Nat) (w : World) (h1 : 1 ≤ c) (h2 : c ≤ 16) :
    Calls Try.prog 7 #[.int .i64 c] w fun e w' => e = .returned (.tuple #[.pointer (some ⟨w.heap.size, 0, none⟩), .int .i64 0]) ∧ PT w' w.heap.size c 0 [] ∧ Below w.heap.size w w' := by
  have hz := zTlb_run
  have hne := zTlb_ne
  have h3 : decide ((c : Int) < 1) = false := by simp; omega
  have h4 : decide ((16 : Int) < c) = false := by simp; omega
  go_enter Try.func7, Try.ntmps7
  go_wp2
  go_ret2
  refine ⟨rfl, ?_, (Below.refl _ _).alloc (Nat.le_refl _) _⟩
  rw [zTlb_set]
  exact ⟨List.replicate 68 0, by simp, Blk.new _ _ _⟩

theorem mayB_eq (d p f m : Int) (h : 0 ≤ d ∧ d < 4 ∧ 0 ≤ p ∧ p < 256) : mayB d p f m = (eB f m && !(m == 0)) := by
  unfold mayB eB
  rw [Bool.eq_iff_iff]
  simp
  omega

theorem may_any (d p f m : Int) (w : World) :
    Calls Try.prog 21 #[.int .i64 d, .int .i64 p, .agg #[.int .i64 f, .int .i64 m]] w fun e w' => e = .returned (.bool (mayB d p f m)) ∧ Below w.heap.size w w' := by
  by_cases h1 : 0 ≤ d
  · by_cases h2 : d < 4
    · have h2' : decide (d < 4) = true := by simpa using h2
      by_cases h3 : 0 ≤ p
      · by_cases h4 : p < 256
        · have h4' : decide (p < 256) = true := by simpa using h4
          have HM := Lib.hid (mayB_eq d p f m ⟨h1, h2, h3, h4⟩)
          cases he : eB f m with
          | false =>
            have HE := Lib.hid he; clear he
            go_enter Try.func21, Try.ntmps21
            go_wp2_with fail
            refine (emay_any f m _).mono ?_
            rw [HE.out]
            rintro e w1 ⟨rfl, b1⟩
            go_wp2_with fail
            go_ret
            exact ⟨by rw [HM.out, HE.out]; rfl, Below.down ((Below.refl _ _).alloc (Nat.le_refl _) _) b1 (by simp)⟩
          | true =>
            have HE := Lib.hid he; clear he
            cases hm : (m == 0) with
            | true =>
              obtain rfl : m = 0 := by simpa using hm
              clear hm
              go_enter Try.func21, Try.ntmps21
              go_wp2_with fail
              refine (emay_any f 0 _).mono ?_
              rw [HE.out]
              rintro e w1 ⟨rfl, b1⟩
              obtain ⟨hc, hf⟩ := bcell b1
              go_wp2_with fail
              go_ret
              exact ⟨by rw [HM.out, HE.out]; rfl, Below.down ((Below.refl _ _).alloc (Nat.le_refl _) _) b1 (by simp)⟩
            | false =>
              have HM' : Hid (mayB d p f m = true) := Lib.hid (by rw [HM.out, HE.out, hm]; rfl)
              have hm' : (m != 0) = true := by simpa using hm
              go_enter Try.func21, Try.ntmps21
              go_wp2_with fail
              refine (emay_any f m _).mono ?_
              rw [HE.out]
              rintro e w1 ⟨rfl, b1⟩
              obtain ⟨hc, hf⟩ := bcell b1
              go_wp2_with fail
              go_ret
              exact ⟨by rw [HM'.out]; rfl, Below.down ((Below.refl _ _).alloc (Nat.le_refl _) _) b1 (by simp)⟩
        · have HM := Lib.hid (show mayB d p f m = false from decide_eq_false (by omega))
          have h4' : decide (p < 256) = false := by simp; omega
          go_enter Try.func21, Try.ntmps21
          go_wp2_with fail
          go_ret
          exact ⟨by rw [HM.out]; rfl, (Below.refl _ _).alloc (Nat.le_refl _) _⟩
      · have HM := Lib.hid (show mayB d p f m = false from decide_eq_false (by omega))
        have h3' : p < 0 := by omega
        go_enter Try.func21, Try.ntmps21
        go_wp2_with fail
        go_ret
        exact ⟨by rw [HM.out]; rfl, (Below.refl _ _).alloc (Nat.le_refl _) _⟩
    · have HM := Lib.hid (show mayB d p f m = false from decide_eq_false (by omega))
      have h2' : decide (d < 4) = false := by simp; omega
      go_enter Try.func21, Try.ntmps21
      go_wp2_with fail
      go_ret
      exact ⟨by rw [HM.out]; rfl, (Below.refl _ _).alloc (Nat.le_refl _) _⟩
  · have HM := Lib.hid (show mayB d p f m = false from decide_eq_false (by omega))
    have h1' : d < 0 := by omega
    go_enter Try.func21, Try.ntmps21
    go_wp2_with fail
    go_ret
    exact ⟨by rw [HM.out]; rfl, (Below.refl _ _).alloc (Nat.le_refl _) _⟩

end Go.Proofs.Ytiegonnnokldkaa
