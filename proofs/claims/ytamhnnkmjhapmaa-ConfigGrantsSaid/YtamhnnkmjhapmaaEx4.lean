/-
  Slices of parts held against one another: caissonlaw0.SameParts.
-/
import Derived.Test.YtamhnnkmjhapmaaEx3
import Derived.Test.YtamhnnkmjhapmaaRi7
namespace Go.Proofs.Ytamhnnkmjhapmaa
open Go.RowKit
set_option linter.unusedVariables false
set_option linter.unusedSimpArgs false
set_option maxRecDepth 100000

theorem quiet_draws {P : Program} {f : FuncId} {args : Array Value} {w : World} {a n : Nat} {v : Value}
    (h : ∀ m, Calls P f args (w.drewN m) fun e w' => e = .returned v ∧ ∃ j, w' = (w.drewN m).drewN j) : Calls P f args (w.drewN (a + n)) fun e w'' => e = .returned v ∧ ∃ m, w'' = w.drewN (a + m) :=
  (h _).mono fun _ _ ⟨he, m, hm⟩ => ⟨he, n + m, by rw [hm, World.drewN_drewN, Nat.add_assoc]⟩

set_option maxHeartbeats 4000000 in
theorem same_parts (x y : Value) (l : List Pa) (w : World) (hx : PaS w x l) (hy : PaS w y l) (hz : PaZ l) :
    Calls Try.prog 32 #[x, y] w fun e w' => e = .returned (.bool true) ∧ ∃ k, w' = w.drewN k := by
  obtain ⟨A, c, rfl, hA⟩ := hx
  obtain ⟨B, d, rfl, hB⟩ := hy
  obtain ⟨n, hl⟩ : ∃ n, l.length = n := ⟨_, rfl⟩
  obtain ⟨hz1, hz2⟩ := hz
  rw [hl] at hA hB hz1 ⊢
  have HA := Lib.hid hA; have HB := Lib.hid hB; have HZ := Lib.hid hz2
  clear hA hB hl hz2
  go_enter Try.func32, Try.ntmps32
  go_wp2
  go_loopw [5] (fun i wr => ∃ k q : Nat, k ≤ n ∧ i = .int .i64 k ∧ wr = w.drewN q) (fun i _ => n - (intOf i).toNat)
  case atStart => exact ⟨0, 0, by omega, rfl, rfl⟩
  case round =>
    obtain ⟨k, q, hk, rfl, rfl⟩ := hrel
    by_cases hlt : k < n
    · obtain ⟨b, o, rfl, -, ha⟩ := HA.out (by omega)
      obtain ⟨b', o', rfl, -, hb⟩ := HB.out (by omega)
      obtain ⟨A2, c2, p0, p1, p2, p3, p4, ps, -⟩ := ha k hlt
      obtain ⟨B2, d2, q0, q1, q2, q3, q4, qs, -⟩ := hb k hlt
      have hf := HZ.out k
      clear ha hb HA HB HZ
      generalize l.getD k paD = p at *
      obtain ⟨lv, ct, fr, fi, co⟩ := p
      simp only at p0 p1 p2 p3 p4 ps q0 q1 q2 q3 q4 qs hf
      have HS : Hid (∀ m, Calls Try.prog 34 #[.slice A2 fr.length c2, .slice B2 fr.length d2] (w.drewN m) fun e w' => e = .returned (.bool true) ∧ ∃ j, w' = (w.drewN m).drewN j) :=
        Lib.hid fun m => same_intz _ _ fr.length fr (w.drewN m) (ps.drewN m) (qs.drewN m) rfl (by unfold maxLen; omega)
      clear ps qs
      go_wp2
      go_quiet ((go_at_call 34; first | exact Calls.quiet_of (HS.out _) | exact quiet_draws HS.out))
      go_wp2
      go_roundw
      case rel => exact ⟨k + 1, _, by omega, by go_num, rfl⟩
      case measure => simp [intOf]; omega
    · go_wp2
      go_ret
      exact ⟨rfl, _, rfl⟩

end Go.Proofs.Ytamhnnkmjhapmaa
