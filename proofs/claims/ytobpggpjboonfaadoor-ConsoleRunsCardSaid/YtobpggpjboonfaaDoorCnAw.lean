/-
  The console's laws: what each begins with; sums of texts.
-/
import Derived.Test.YtobpggpjboonfaaDoorCn7
import Derived.Test.YtobpggpjboonfaaDoorCnD
import Derived.Test.YtobpggpjboonfaaDoorNum
namespace Go.Proofs.YtobpggpjboonfaaDoor
open Go.RowKit Go.Lib
set_option linter.unusedVariables false
set_option linter.unusedSimpArgs false
set_option maxRecDepth 100000

theorem cawake_any (w : World) (he : Env w) : Calls Tryd.prog 13 #[] w fun e w' => e = .returned (.bool true) ∧ Below w.heap.size w w' := by
  have h := run_any [115, 112, 108, 105, 116, 32, 54, 48, 32, 49, 48, 10, 35, 32, 120, 10, 10, 101, 110, 116, 114, 121, 32, 53, 32, 50, 10, 119, 111, 114, 100, 32, 50, 48, 52, 56, 53, 10, 111, 118, 101, 114, 32, 50, 32, 53, 32, 49, 32, 52, 10, 110, 101, 120, 116, 32, 54, 32, 50, 32, 51, 32, 51, 32, 52, 10, 102, 114, 111, 98, 10, 101, 110, 116, 114, 121, 32, 53, 32, 48, 10, 115, 112, 108, 105, 116, 32, 53, 32, 48] w he (by decide)
  rw [rn_awake] at h
  have H : Hid (Calls Tryd.prog 11 #[.string ⟨#[115, 112, 108, 105, 116, 32, 54, 48, 32, 49, 48, 10, 35, 32, 120, 10, 10, 101, 110, 116, 114, 121, 32, 53, 32, 50, 10, 119, 111, 114, 100, 32, 50, 48, 52, 56, 53, 10, 111, 118, 101, 114, 32, 50, 32, 53, 32, 49, 32, 52, 10, 110, 101, 120, 116, 32, 54, 32, 50, 32, 51, 32, 51, 32, 52, 10, 102, 114, 111, 98, 10, 101, 110, 116, 114, 121, 32, 53, 32, 48, 10, 115, 112, 108, 105, 116, 32, 53, 32, 48]⟩] w fun e w' => e = .returned (.tuple #[.string ⟨#[48, 32, 54, 48, 32, 52, 32, 49, 32, 48, 32, 54, 10, 50, 48, 52, 56, 53, 10, 53, 32, 50, 10, 121, 101, 115, 10, 57, 10, 101, 114, 114, 111, 114, 32, 50, 53, 48, 48, 10, 101, 114, 114, 111, 114, 32, 52, 48, 48, 10, 10]⟩, .int .i64 0]) ∧ Below w.heap.size w w') := Lib.hid h
  clear h
  go_enter Tryd.func13, Tryd.ntmps13
  go_wp2_with (first
    | (go_at_call 11; refine H.out.mono ?_; rintro e w1 ⟨rfl, hb1⟩)
    | (go_at_call 12; refine (num_any _ _).mono ?_; rintro e w2 ⟨rfl, rfl⟩))
  go_ret
  exact ⟨rfl, hb1⟩

/-- A sum of two texts, as an equation of the run. -/
theorem add_eq (a b : List UInt8) (S A B : ByteArray) (hA : str a = A) (hB : str b = B) (hS : str (a ++ b) = S) (h : a.length + b.length ≤ 9223372036854775807) (wx : World) : (Op.stringOp .add A B).run Tryd.prog wx = .ok (.string S) wx := by
  subst hA hB hS
  exact stx_add a b h wx
/-- A script of one line, of words with blanks between. -/
theorem fld_jn (ws : List (List UInt8)) (h : ∀ t ∈ ws, t ≠ [] ∧ ∀ c ∈ t, isB c = false) : fld [] (jnS ws) = ws := by
  have key : ∀ ws : List (List UInt8), (∀ t ∈ ws, t ≠ [] ∧ ∀ c ∈ t, isB c = false) → ∀ t, t ≠ [] → (∀ c ∈ t, isB c = false) → fld [] (t ++ tlS ws) = t :: ws := by
    intro ws
    induction ws with
    | nil => intro _ t h1 h2; rw [tlS, List.append_nil]; exact fld_last t h2 h1
    | cons v ws ih =>
      intro h t h1 h2
      rw [tlS, List.cons_append, fld_word _ _ _ h2 h1 (by decide)]
      rw [ih (fun x hx => h x (by simp [hx])) v (h v (by simp)).1 (h v (by simp)).2]
  cases ws with
  | nil => rfl
  | cons t ws => exact key ws (fun x hx => h x (by simp [hx])) t (h t (by simp)).1 (h t (by simp)).2
/-- A command's line. -/
theorem rn_cmd (k : Nat) (hk : k < 5) (us : List Nat) (hu : ∀ u ∈ us, u < 1000000) (hl : us.length = cmN k) :
    rnS (jnS (cmW k :: us.map decDigits)) = otS (tlC k (us.map fun u : Nat => (u : Int))) ++ [10] := by
  have hw : ∀ t ∈ cmW k :: us.map decDigits, t ≠ [] ∧ ∀ c ∈ t, isB c = false ∧ c ≠ 10 := by
    intro t ht
    rcases List.mem_cons.1 ht with rfl | ht
    · rcases (show k = 0 ∨ k = 1 ∨ k = 2 ∨ k = 3 ∨ k = 4 by omega) with rfl | rfl | rfl | rfl | rfl <;> decide
    · obtain ⟨u, _, rfl⟩ := List.mem_map.1 ht
      exact ⟨dec_ne u, fun c hc => ⟨dec_noB u c hc, dec_no10 u c hc⟩⟩
  have h10 : ∀ c ∈ jnS (cmW k :: us.map decDigits), c ≠ 10 := by
    have key : ∀ ws : List (List UInt8), (∀ t ∈ ws, ∀ c ∈ t, c ≠ 10) → ∀ c ∈ tlS ws, c ≠ 10 := by
      intro ws
      induction ws with
      | nil => intro _ c hc; cases hc
      | cons v ws ih =>
        intro h c hc
        rw [tlS, List.cons_append, List.mem_cons, List.mem_append] at hc
        rcases hc with rfl | hc | hc
        · decide
        · exact h v (by simp) c hc
        · exact ih (fun x hx => h x (by simp [hx])) c hc
    intro c hc
    rw [jnS, List.mem_append] at hc
    rcases hc with hc | hc
    · exact ((hw _ (by simp)).2 c hc).2
    · exact key _ (fun t ht c hc => ((hw t (by simp [ht])).2 c hc).2) c hc
  have hf := fld_jn (cmW k :: us.map decDigits) (fun t ht => ⟨(hw t ht).1, fun c hc => ((hw t ht).2 c hc).1⟩)
  have hn : ∀ us : List Nat, (∀ u ∈ us, u < 1000000) → numsS (us.map decDigits) = some (us.map fun u : Nat => (u : Int)) := by
    intro us
    induction us with
    | nil => intro _; rfl
    | cons u us ih =>
      intro h
      rw [List.map_cons, numsS, numS_dec u (h u (by simp)), ih (fun x hx => h x (by simp [hx]))]
      rfl
  have hc : cmF (cmW k) (us.map decDigits).length 5 0 = some k := by
    rw [List.length_map, hl]
    rcases (show k = 0 ∨ k = 1 ∨ k = 2 ∨ k = 3 ∨ k = 4 by omega) with rfl | rfl | rfl | rfl | rfl <;> decide
  have hs : syS (cmW k :: us.map decDigits) = true := by
    rcases (show k = 0 ∨ k = 1 ∨ k = 2 ∨ k = 3 ∨ k = 4 by omega) with rfl | rfl | rfl | rfl | rfl <;> rfl
  rw [rnS_line _ h10, lnS, hf, hs, asS, hc]
  simp only [hn us hu]
  rfl

end Go.Proofs.YtobpggpjboonfaaDoor
