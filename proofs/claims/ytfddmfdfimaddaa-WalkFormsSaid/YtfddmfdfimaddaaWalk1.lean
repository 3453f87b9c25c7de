/-
  Contracts of layer 5: step, Walk.
-/
import Derived.Test.YtfddmfdfimaddaaWalk0
import Derived.Test.YtfddmfdfimaddaaPteAwake
import Derived.Test.YtfddmfdfimaddaaPhysStr
namespace Go.Proofs.Ytfddmfdfimaddaa
open Go.RowKit
set_option linter.unusedVariables false

theorem wd_yes (l : List UInt8) (a : Int) (h0 : 0 ≤ a) (h4 : a % 4 = 0) (h : a + 4 ≤ l.length) : errC (wdB l.length a) = 0 := by
  rw [show wdB l.length a = true from decide_eq_true ⟨h0, h4, h⟩]; rfl

set_option maxHeartbeats 2000000 in
theorem step_any (g : Nat) (l : List UInt8) (m : Nat) (F k : Int) (w : World) (h : PM w g l) (hm : l.length = 64 * m) (hF0 : 0 ≤ F) (hF1 : F < m) (hk0 : 0 ≤ k) (hk1 : k < 16) :
    Calls Try.prog 20 #[.func (.func 19) #[.pointer (some ⟨g, 0, none⟩)] #[], .int .i64 m, .int .i64 F, .int .i64 k] w fun e w' => e = .returned (.tuple #[.agg #[.int .i64 (sF l F k), .int .i64 (sP l F k)], .int .i64 (sC l F k)]) ∧ Below w.heap.size w w' := by
  have hm64 : m ≤ 64 := by obtain ⟨_, _, h2, h3, _⟩ := h.size; omega
  have hX : wdN l (F * 64 + k * 4) = sW l F k := rfl
  have hE := wd_yes l (F * 64 + k * 4) (by omega) (by omega) (by omega)
  have hs := s_cases l F k m hm
  have hbd := g_bounds (sW l F k)
  generalize sW l F k = X at *
  have HX := Lib.hid hX; have HE := Lib.hid hE; have HS := Lib.hid hs; have HD := Lib.hid hbd; clear hX hE hs hbd hm
  have t0 := Blk.new w 29 [.int .i64 0, .int .i64 0]
  go_enter Try.func20, Try.ntmps20
  go_wp2_with fail
  refine (pword_is g l _ X 0 _ (h.alloc _) HX.out HE.out).mono ?_
  rintro e w' ⟨rfl, rfl⟩
  go_wp2_with fail
  generalize hFF : gF X = FF at *
  generalize hPP : gP X = PP at *
  have HFF := Lib.hid hFF; have HPP := Lib.hid hPP; clear hFF hPP
  refine (eget_is X FF PP _ _ HFF.out HPP.out rfl).mono ?_
  rintro e w1 ⟨rfl, b1⟩
  have hs1 := b1.size
  have t1 := two_at (((t0.below b1 t0.lt)).alloc (.cells #[.int .i64 FF, .int .i64 PP] 29))
  have c1 := two_at (Blk.new w1 29 [.int .i64 FF, .int .i64 PP])
  have hb : Below w.heap.size w (w1.alloc (.cells #[.int .i64 FF, .int .i64 PP] 29)) := (below_alloc b1).alloc (below_alloc b1).size _
  obtain ⟨t10, t11, t1f, t1g⟩ := t1
  obtain ⟨c10, c11, _, _⟩ := c1
  have hne : w1.heap.size ≠ w.heap.size := by simp at hs1; omega
  clear t0 b1 hs1
  rcases HS.out with ⟨hg, e1, e2, e3⟩ | ⟨hg, hf, e1, e2, e3⟩ | ⟨hg, hf, hp, e1, e2, e3⟩ | ⟨hg, hf, hp, e1, e2, e3⟩
  · rw [hg, show e4 false = 400 from rfl]
    have E1 := Lib.hid e1; have E2 := Lib.hid e2; have E3 := Lib.hid e3; clear e1 e2 e3 hg
    go_wp2_with fail
    exact bodyPost_ret (v := .tuple #[.agg #[.int .i64 0, .int .i64 0], .int .i64 502]) (by simp [results, Try.results20, go_sem, t10, t11]) rfl ⟨by rw [E1.out, E2.out, E3.out], (hb.setCell (Nat.le_refl _) _).setCell (Nat.le_refl _) _⟩
  · rw [hg, show e4 true = 0 from rfl]
    have E1 := Lib.hid e1; have E2 := Lib.hid e2; have E3 := Lib.hid e3; clear e1 e2 e3 hg
    go_wp2_with fail
    exact bodyPost_ret (v := .tuple #[.agg #[.int .i64 0, .int .i64 0], .int .i64 502]) (by simp [results, Try.results20, go_sem, t10, t11]) rfl ⟨by rw [E1.out, E2.out, E3.out], (hb.setCell (Nat.le_refl _) _).setCell (Nat.le_refl _) _⟩
  · rw [hg, show e4 true = 0 from rfl]
    have E1 := Lib.hid e1; have E2 := Lib.hid e2; have E3 := Lib.hid e3; clear e1 e2 e3 hg
    subst hp
    go_wp2_with fail
    exact bodyPost_ret (v := .tuple #[.agg #[.int .i64 0, .int .i64 0], .int .i64 501]) (by simp [results, Try.results20, go_sem, t10, t11]) rfl ⟨by rw [E1.out, E2.out, E3.out], (hb.setCell (Nat.le_refl _) _).setCell (Nat.le_refl _) _⟩
  · rw [hg, show e4 true = 0 from rfl]
    have hp' : (PP == 0) = false := by simpa using hp
    have E1 := Lib.hid e1; have E2 := Lib.hid e2; have E3 := Lib.hid e3; clear e1 e2 e3 hg hp
    go_wp2_with fail
    exact bodyPost_ret (v := .tuple #[.agg #[.int .i64 FF, .int .i64 PP], .int .i64 0]) (by simp [results, Try.results20, go_sem, t10, t11]) rfl ⟨by rw [E1.out, E2.out, E3.out], (hb.setCell (Nat.le_refl _) _).setCell (Nat.le_refl _) _⟩

end Go.Proofs.Ytfddmfdfimaddaa
