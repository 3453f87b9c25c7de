/-
  Plain words for layer 5: what a step answers, what a walk answers. No Go here.
-/
import Derived.Test.YtggdbiniklchoaaPhysAll
import Derived.Test.YtggdbiniklchoaaPteAll
import Derived.Deep.RegionWith
namespace Go.Proofs.Ytggdbiniklchoaa
open Go.RowKit
set_option linter.unusedVariables false
set_option maxRecDepth 100000

/-- Word k of frame F. -/
def sW (l : List UInt8) (F k : Int) : Int := wdN l (F * 64 + k * 4)
/-- A step's error, its frame, its rights. -/
def sC (l : List UInt8) (F k : Int) : Int := if gB (sW l F k) = true ∧ gF (sW l F k) < ((l.length / 64 : Nat) : Int) then (if gP (sW l F k) = 0 then 501 else 0) else 502
def sF (l : List UInt8) (F k : Int) : Int := if sC l F k = 0 then gF (sW l F k) else 0
def sP (l : List UInt8) (F k : Int) : Int := if sC l F k = 0 then gP (sW l F k) else 0
def wOk (l : List UInt8) (r p : Int) : Bool := decide (0 ≤ p ∧ p < 256 ∧ 0 ≤ r ∧ r < ((l.length / 64 : Nat) : Int))
/-- A walk's error, its frame, its rights. -/
def wC (l : List UInt8) (r p : Int) : Int := if wOk l r p then (if sC l r (p / 16) = 0 then (if sP l r (p / 16) = 3 then sC l (sF l r (p / 16)) (p % 16) else 502) else sC l r (p / 16)) else 500
def wF (l : List UInt8) (r p : Int) : Int := if wC l r p = 0 then sF l (sF l r (p / 16)) (p % 16) else 0
def wP (l : List UInt8) (r p : Int) : Int := if wC l r p = 0 then sP l (sF l r (p / 16)) (p % 16) else 0

/-- Both numbers of a word's entry. -/
theorem g_bounds (x : Int) (h : gB x = true) : 0 ≤ gF x ∧ gF x < 64 ∧ 0 ≤ gP x ∧ gP x ≤ 3 := by
  rw [gF_eq x h, gP_eq x h]
  have h := of_decide_eq_true h
  omega

theorem s_cases (l : List UInt8) (F k : Int) (m : Nat) (hm : l.length = 64 * m) :
    (gB (sW l F k) = false ∧ sC l F k = 502 ∧ sF l F k = 0 ∧ sP l F k = 0) ∨
    (gB (sW l F k) = true ∧ (m : Int) ≤ gF (sW l F k) ∧ sC l F k = 502 ∧ sF l F k = 0 ∧ sP l F k = 0) ∨
    (gB (sW l F k) = true ∧ gF (sW l F k) < m ∧ gP (sW l F k) = 0 ∧ sC l F k = 501 ∧ sF l F k = 0 ∧ sP l F k = 0) ∨
    (gB (sW l F k) = true ∧ gF (sW l F k) < m ∧ gP (sW l F k) ≠ 0 ∧ sC l F k = 0 ∧ sF l F k = gF (sW l F k) ∧ sP l F k = gP (sW l F k)) := by
  have hd : l.length / 64 = m := by omega
  have hC : sC l F k = if gB (sW l F k) = true ∧ gF (sW l F k) < (m : Int) then (if gP (sW l F k) = 0 then 501 else 0) else 502 := by unfold sC; rw [hd]
  have no : ∀ c : Int, c ≠ 0 → sC l F k = c → sC l F k = c ∧ sF l F k = 0 ∧ sP l F k = 0 := fun c h0 h => ⟨h, by unfold sF; rw [if_neg (by rw [h]; exact h0)], by unfold sP; rw [if_neg (by rw [h]; exact h0)]⟩
  by_cases hb : gB (sW l F k) = true
  · by_cases hf : gF (sW l F k) < m
    · rw [if_pos ⟨hb, hf⟩] at hC
      by_cases hp : gP (sW l F k) = 0
      · rw [if_pos hp] at hC
        exact .inr (.inr (.inl ⟨hb, hf, hp, no _ (by omega) hC⟩))
      · rw [if_neg hp] at hC
        exact .inr (.inr (.inr ⟨hb, hf, hp, hC, by unfold sF; rw [if_pos hC], by unfold sP; rw [if_pos hC]⟩))
    · rw [if_neg (fun h => hf h.2)] at hC
      exact .inr (.inl ⟨hb, by omega, no _ (by omega) hC⟩)
  · rw [if_neg (fun h => hb h.1)] at hC
    exact .inl ⟨by simpa using hb, no _ (by omega) hC⟩

theorem s_bounds (l : List UInt8) (F k : Int) (m : Nat) (hm : l.length = 64 * m) (h : sC l F k = 0) : 0 ≤ sF l F k ∧ sF l F k < m := by
  rcases s_cases l F k m hm with ⟨_, h1, _⟩ | ⟨_, _, h1, _⟩ | ⟨_, _, _, h1, _⟩ | ⟨hb, hf, _, _, h2, _⟩
  · omega
  · omega
  · omega
  · rw [h2]; exact ⟨(g_bounds _ hb).1, hf⟩

theorem w_cases (l : List UInt8) (r p : Int) :
    (wOk l r p = false ∧ wC l r p = 500 ∧ wF l r p = 0 ∧ wP l r p = 0) ∨
    (wOk l r p = true ∧ sC l r (p / 16) ≠ 0 ∧ wC l r p = sC l r (p / 16) ∧ wF l r p = 0 ∧ wP l r p = 0) ∨
    (wOk l r p = true ∧ sC l r (p / 16) = 0 ∧ sP l r (p / 16) ≠ 3 ∧ wC l r p = 502 ∧ wF l r p = 0 ∧ wP l r p = 0) ∨
    (wOk l r p = true ∧ sC l r (p / 16) = 0 ∧ sP l r (p / 16) = 3 ∧ wC l r p = sC l (sF l r (p / 16)) (p % 16) ∧ wF l r p = sF l (sF l r (p / 16)) (p % 16) ∧ wP l r p = sP l (sF l r (p / 16)) (p % 16)) := by
  unfold wF wP wC
  by_cases ho : wOk l r p = true
  · rw [ho, if_pos rfl]
    by_cases hc : sC l r (p / 16) = 0
    · rw [if_pos hc]
      by_cases h3 : sP l r (p / 16) = 3
      · rw [if_pos h3]
        refine .inr (.inr (.inr ⟨rfl, hc, h3, rfl, ?_, ?_⟩))
        · by_cases h : sC l (sF l r (p / 16)) (p % 16) = 0
          · rw [if_pos h]
          · rw [if_neg h]
            have e : ∀ F, ¬ sC l F (p % 16) = 0 → sF l F (p % 16) = 0 := fun F h => by unfold sF; rw [if_neg h]
            exact (e _ h).symm
        · by_cases h : sC l (sF l r (p / 16)) (p % 16) = 0
          · rw [if_pos h]
          · rw [if_neg h]
            have e : ∀ F, ¬ sC l F (p % 16) = 0 → sP l F (p % 16) = 0 := fun F h => by unfold sP; rw [if_neg h]
            exact (e _ h).symm
      · rw [if_neg h3]
        exact .inr (.inr (.inl ⟨rfl, hc, h3, rfl, rfl, rfl⟩))
    · rw [if_neg hc]
      exact .inr (.inl ⟨rfl, hc, rfl, by rw [if_neg hc], by rw [if_neg hc]⟩)
  · have ho : wOk l r p = false := by simpa using ho
    rw [ho]
    exact .inl ⟨rfl, rfl, rfl, rfl⟩

end Go.Proofs.Ytggdbiniklchoaa

namespace Go.Proofs.Ytggdbiniklchoaa
open Go.RowKit
set_option linter.unusedVariables false
set_option maxRecDepth 100000

theorem wd_yes (l : List UInt8) (a : Int) (h0 : 0 ≤ a) (h4 : a % 4 = 0) (h : a + 4 ≤ l.length) : errC (wdB l.length a) = 0 := by
  rw [show wdB l.length a = true from decide_eq_true ⟨h0, h4, h⟩]; rfl

set_option maxHeartbeats 2000000 in
theorem step_any (g : Nat) (l : List UInt8) (m : Nat) (F k : Int) (w : World) (h : PM w g l) (hm : l.length = 64 * m) (hF0 : 0 ≤ F) (hF1 : F < m) (hk0 : 0 ≤ k) (hk1 : k < 16) :
    Calls Try.prog 82 #[.func (.func 59) #[.pointer (some ⟨g, 0, none⟩)] #[], .int .i64 m, .int .i64 F, .int .i64 k] w fun e w' => e = .returned (.tuple #[.agg #[.int .i64 (sF l F k), .int .i64 (sP l F k)], .int .i64 (sC l F k)]) ∧ Below w.heap.size w w' := by
  have hm64 : m ≤ 64 := by obtain ⟨_, _, h2, h3, _⟩ := h.size; omega
  have hX : wdN l (F * 64 + k * 4) = sW l F k := rfl
  have hE := wd_yes l (F * 64 + k * 4) (by omega) (by omega) (by omega)
  have hs := s_cases l F k m hm
  have hbd := g_bounds (sW l F k)
  generalize sW l F k = X at *
  have HX := Lib.hid hX; have HE := Lib.hid hE; have HS := Lib.hid hs; have HD := Lib.hid hbd; clear hX hE hs hbd hm
  have t0 := Blk.new w 46 [.int .i64 0, .int .i64 0]
  go_enter Try.func82, Try.ntmps82
  go_wp2_with fail
  refine (pword_is g l _ X 0 _ (h.alloc _) HX.out HE.out).mono ?_
  rintro e w' ⟨rfl, rfl⟩
  go_wp2_with fail
  generalize hFF : gF X = FF at *
  generalize hPP : gP X = PP at *
  have HFF := Lib.hid hFF; have HPP := Lib.hid hPP; clear hFF hPP
  refine (eget_is X FF PP _ _ HFF.out HPP.out rfl).mono ?_
  rintro e w1 ⟨rfl, b1⟩
  have hs1 := b1.size
  have t1 := two_at (((t0.below b1 t0.lt)).alloc (.cells #[.int .i64 FF, .int .i64 PP] 46))
  have c1 := two_at (Blk.new w1 46 [.int .i64 FF, .int .i64 PP])
  have hb : Below w.heap.size w (w1.alloc (.cells #[.int .i64 FF, .int .i64 PP] 46)) := (below_alloc b1).alloc (below_alloc b1).size _
  obtain ⟨t10, t11, t1f, t1g⟩ := t1
  obtain ⟨c10, c11, _, _⟩ := c1
  have hne : w1.heap.size ≠ w.heap.size := by simp at hs1; omega
  clear t0 b1 hs1
  rcases HS.out with ⟨hg, e1, e2, e3⟩ | ⟨hg, hf, e1, e2, e3⟩ | ⟨hg, hf, hp, e1, e2, e3⟩ | ⟨hg, hf, hp, e1, e2, e3⟩
  · rw [hg, show e4 false = 400 from rfl]
    have E1 := Lib.hid e1; have E2 := Lib.hid e2; have E3 := Lib.hid e3; clear e1 e2 e3 hg
    go_wp2_with fail
    exact bodyPost_ret (v := .tuple #[.agg #[.int .i64 0, .int .i64 0], .int .i64 502]) (by simp [results, Try.results82, go_sem, t10, t11]) rfl ⟨by rw [E1.out, E2.out, E3.out], (hb.setCell (Nat.le_refl _) _).setCell (Nat.le_refl _) _⟩
  · rw [hg, show e4 true = 0 from rfl]
    have E1 := Lib.hid e1; have E2 := Lib.hid e2; have E3 := Lib.hid e3; clear e1 e2 e3 hg
    go_wp2_with fail
    exact bodyPost_ret (v := .tuple #[.agg #[.int .i64 0, .int .i64 0], .int .i64 502]) (by simp [results, Try.results82, go_sem, t10, t11]) rfl ⟨by rw [E1.out, E2.out, E3.out], (hb.setCell (Nat.le_refl _) _).setCell (Nat.le_refl _) _⟩
  · rw [hg, show e4 true = 0 from rfl]
    have E1 := Lib.hid e1; have E2 := Lib.hid e2; have E3 := Lib.hid e3; clear e1 e2 e3 hg
    subst hp
    go_wp2_with fail
    exact bodyPost_ret (v := .tuple #[.agg #[.int .i64 0, .int .i64 0], .int .i64 501]) (by simp [results, Try.results82, go_sem, t10, t11]) rfl ⟨by rw [E1.out, E2.out, E3.out], (hb.setCell (Nat.le_refl _) _).setCell (Nat.le_refl _) _⟩
  · rw [hg, show e4 true = 0 from rfl]
    have hp' : (PP == 0) = false := by simpa using hp
    have E1 := Lib.hid e1; have E2 := Lib.hid e2; have E3 := Lib.hid e3; clear e1 e2 e3 hg hp
    go_wp2_with fail
    exact bodyPost_ret (v := .tuple #[.agg #[.int .i64 FF, .int .i64 PP], .int .i64 0]) (by simp [results, Try.results82, go_sem, t10, t11]) rfl ⟨by rw [E1.out, E2.out, E3.out], (hb.setCell (Nat.le_refl _) _).setCell (Nat.le_refl _) _⟩

end Go.Proofs.Ytggdbiniklchoaa

namespace Go.Proofs.Ytggdbiniklchoaa
open Go.RowKit
set_option linter.unusedVariables false
set_option maxRecDepth 100000

theorem walk_nil (r p : Int) (w : World) :
    Calls Try.prog 70 #[.pointer none, .int .i64 r, .int .i64 p] w fun e w' => e = .returned (.tuple #[.agg #[.int .i64 0, .int .i64 0], .int .i64 1]) ∧ Below w.heap.size w w' := by
  go_enter Try.func70, Try.ntmps70
  go_wp2_with fail
  exact bodyPost_ret (v := .tuple #[.agg #[.int .i64 0, .int .i64 0], .int .i64 1]) (by simp [results, Try.results70, go_sem]) rfl ⟨rfl, (((Below.refl _ _).alloc (Nat.le_refl _) _))⟩

set_option maxHeartbeats 2000000 in
theorem walk_form (g : Nat) (l : List UInt8) (m : Nat) (r p : Int) (w : World) (h : PM w g l) (hm : l.length = 64 * m) (hn : ¬ (0 ≤ p ∧ p < 256 ∧ 0 ≤ r ∧ r < m)) :
    Calls Try.prog 70 #[.pointer (some ⟨g, 0, none⟩), .int .i64 r, .int .i64 p] w fun e w' => e = .returned (.tuple #[.agg #[.int .i64 0, .int .i64 0], .int .i64 500]) ∧ Below w.heap.size w w' := by
  have hm64 : m ≤ 64 := by obtain ⟨_, _, h2, h3, _⟩ := h.size; omega
  have hM : ((l.length : Int)) / 64 = m := by omega
  have hc : p < 0 ∨ (0 ≤ p ∧ 256 ≤ p) ∨ (0 ≤ p ∧ p < 256 ∧ r < 0) ∨ (0 ≤ p ∧ p < 256 ∧ 0 ≤ r ∧ (m : Int) ≤ r) := by omega
  clear hn
  have H := Lib.hid h; clear h
  rcases hc with h1 | ⟨h1, h2⟩ | ⟨h1, h2, h3⟩ | ⟨h1, h2, h3, h4⟩
  all_goals
    go_enter Try.func70, Try.ntmps70
    go_wp2_with fail
    refine (psize_any g l _ (H.out.alloc _)).mono ?_
    rintro e w' ⟨rfl, rfl⟩
    go_wp2_with fail
    exact bodyPost_ret (v := .tuple #[.agg #[.int .i64 0, .int .i64 0], .int .i64 500]) (by simp [results, Try.results70, go_sem]) rfl ⟨rfl, (((Below.refl _ _).alloc (Nat.le_refl _) _))⟩

set_option maxHeartbeats 4000000 in
theorem walk_any (g : Nat) (l : List UInt8) (r p : Int) (w : World) (h : PM w g l) :
    Calls Try.prog 70 #[.pointer (some ⟨g, 0, none⟩), .int .i64 r, .int .i64 p] w fun e w' => e = .returned (.tuple #[.agg #[.int .i64 (wF l r p), .int .i64 (wP l r p)], .int .i64 (wC l r p)]) ∧ Below w.heap.size w w' := by
  obtain ⟨m, hm1, hm64, hm, _⟩ := h.size
  have hd : l.length / 64 = m := by omega
  rcases w_cases l r p with ⟨ho, e1, e2, e3⟩ | hc
  · rw [e1, e2, e3]
    refine walk_form g l m r p w h hm (fun hh => ?_)
    have := of_decide_eq_false ho
    rw [hd] at this
    exact this hh
  have ho : wOk l r p = true := by rcases hc with ⟨h, _⟩ | ⟨h, _⟩ | ⟨h, _⟩ <;> exact h
  have ho := of_decide_eq_true ho
  rw [hd] at ho
  obtain ⟨h1, h2, h3, h4⟩ := ho
  have hM : ((l.length : Int)) / 64 = m := by omega
  have HC := Lib.hid hc
  have HB := Lib.hid (s_bounds l r (p / 16) m hm)
  have t0 := Blk.new w 46 [.int .i64 0, .int .i64 0]
  have HM := Lib.hid hm
  have hg := h.lt
  clear hc ho hd hm
  go_enter Try.func70, Try.ntmps70
  go_wp2_with fail
  refine (psize_any g l _ (h.alloc _)).mono ?_
  rintro e w' ⟨rfl, rfl⟩
  go_wp2_with fail
  refine (step_any g l m _ _ _ (h.alloc _) HM.out h3 h4 (by omega) (by omega)).mono ?_
  rintro e w1 ⟨rfl, b1⟩
  have hs1 := b1.size
  generalize hC1 : sC l r (p / 16) = C1 at *
  generalize hF1 : sF l r (p / 16) = F1 at *
  generalize hP1 : sP l r (p / 16) = P1 at *
  clear hC1 hF1 hP1
  have t1 := ((t0.below b1 t0.lt)).alloc (.cells #[.int .i64 F1, .int .i64 P1] 46)
  have c1 := Blk.new w1 46 [.int .i64 F1, .int .i64 P1]
  have hb : Below w.heap.size w (w1.alloc (.cells #[.int .i64 F1, .int .i64 P1] 46)) := (below_alloc b1).alloc (below_alloc b1).size _
  have h' := ((h.alloc (.cells #[.int .i64 0, .int .i64 0] 46)).below b1 (by simp; omega)).alloc (.cells #[.int .i64 F1, .int .i64 P1] 46)
  have hne : w1.heap.size ≠ w.heap.size := by simp at hs1; omega
  obtain ⟨t10, t11, t1f, t1g⟩ := two_at t1
  obtain ⟨c10, c11, _, _⟩ := two_at c1
  rcases HC.out with ⟨_, hc, e1, e2, e3⟩ | ⟨_, hc, hp, e1, e2, e3⟩ | ⟨_, hc, hp, e1, e2, e3⟩
  · have hc' : (C1 != 0) = true := by simpa using hc
    have E1 := Lib.hid e1; have E2 := Lib.hid e2; have E3 := Lib.hid e3; clear e1 e2 e3 hc t0 t1 c1 h'
    go_wp2_with fail
    exact bodyPost_ret (v := .tuple #[.agg #[.int .i64 0, .int .i64 0], .int .i64 C1]) (by simp [results, Try.results70, go_sem, t10, t11]) rfl ⟨by rw [E1.out, E2.out, E3.out], (hb.setCell (Nat.le_refl _) _).setCell (Nat.le_refl _) _⟩
  · subst hc
    have hp' : (P1 != 3) = true := by simpa using hp
    have E1 := Lib.hid e1; have E2 := Lib.hid e2; have E3 := Lib.hid e3; clear e1 e2 e3 hp t0 t1 c1 h'
    go_wp2_with fail
    exact bodyPost_ret (v := .tuple #[.agg #[.int .i64 0, .int .i64 0], .int .i64 502]) (by simp [results, Try.results70, go_sem, t10, t11]) rfl ⟨by rw [E1.out, E2.out, E3.out], (hb.setCell (Nat.le_refl _) _).setCell (Nat.le_refl _) _⟩
  · subst hc hp
    have E1 := Lib.hid e1; have E2 := Lib.hid e2; have E3 := Lib.hid e3; clear e1 e2 e3 t0 t1f t1g t10 t11 hne
    have hF := HB.out rfl
    go_wp2_with fail
    generalize w1.alloc (.cells #[.int .i64 F1, .int .i64 3] 46) = w2 at *
    clear c10 c11
    refine (step_any g l m _ _ _ h' HM.out hF.1 hF.2 (by omega) (by omega)).mono ?_
    rintro e w3 ⟨rfl, b3⟩
    generalize sC l F1 (p % 16) = C2 at *
    generalize sF l F1 (p % 16) = F2 at *
    generalize sP l F1 (p % 16) = P2 at *
    obtain ⟨t10, t11, t1f, t1g⟩ := two_at (t1.below b3 t1.lt)
    have hb3 := Below.down hb b3 hb.size
    clear t1 b3 hb c1 h'
    go_wp2_with fail
    exact bodyPost_ret (v := .tuple #[.agg #[.int .i64 F2, .int .i64 P2], .int .i64 C2]) (by simp [results, Try.results70, go_sem, t10, t11]) rfl ⟨by rw [E1.out, E2.out, E3.out], (hb3.setCell (Nat.le_refl _) _).setCell (Nat.le_refl _) _⟩

end Go.Proofs.Ytggdbiniklchoaa

namespace Go.Proofs.Ytggdbiniklchoaa
open Go.RowKit
set_option linter.unusedVariables false
set_option maxRecDepth 100000

theorem rframes_still (r b : Nat) (l : List UInt8) (m : Nat) (hm : l.length = 64 * m) (w : World) (h : RM w r b l) :
    Calls Try.prog 28 #[.pointer (some ⟨r, 0, none⟩)] w fun e w' => e = .returned (.int .i64 m) ∧ w' = w := by
  have := rframes_any r b l w h
  rw [hm, show ((64 * m : Nat) : Int) / 64 = m by omega] at this
  exact this.mono fun _ _ ⟨he, hw⟩ => ⟨he, hw.symm⟩

theorem RM.far {w : World} {r b : Nat} {l : List UInt8} (h : RM w r b l) {p : Addr} (hr : r ≠ p.block) (hb : b ≠ p.block) (u : Value) : RM (w.setCell p u) r b l := ⟨h.1, h.2.1, h.2.2.1.far hr u, h.2.2.2.far hb u⟩

/-- Is the entry one that leads to a frame that is there? -/
def rO (l : List UInt8) (F k : Int) (m : Nat) : Bool := gB (sW l F k) && decide (gF (sW l F k) < m)

set_option maxHeartbeats 2000000 in
theorem rentry_any (r b : Nat) (l : List UInt8) (m : Nat) (F k : Int) (w : World) (h : RM w r b l) (hm : l.length = 64 * m) (hF0 : 0 ≤ F) (hF1 : F < m) (hk0 : 0 ≤ k) (hk1 : k < 16) :
    Calls Try.prog 73 #[.pointer (some ⟨r, 0, none⟩), .int .i64 F, .int .i64 k] w fun e w' => e = .returned (.tuple #[.agg #[.int .i64 (gF (sW l F k)), .int .i64 (gP (sW l F k))], .bool (rO l F k m)]) ∧ Below w.heap.size w w' := by
  have hm64 : m ≤ 64 := by have := h.1; omega
  have hX : wdN l (F * 64 + 4 * k) = sW l F k := by rw [Int.mul_comm 4 k]; rfl
  have hE := wd_yes l (F * 64 + 4 * k) (by omega) (by omega) (by omega)
  have hO : rO l F k m = (gB (sW l F k) && decide (gF (sW l F k) < m)) := rfl
  rw [hO]; clear hO
  generalize sW l F k = X at *
  have HX := Lib.hid hX; have HE := Lib.hid hE; have HM := Lib.hid hm; clear hX hE hm
  have t0 := Blk.new w 46 [.int .i64 0, .int .i64 0]
  go_enter Try.func73, Try.ntmps73
  go_wp2_with fail
  refine (rword_any r b l _ _ (h.alloc _)).mono ?_
  rintro e w' ⟨rfl, q, rfl⟩
  rw [HX.out, HE.out]
  replace t0 := t0.drewN q
  have h0 := (h.alloc (.cells #[.int .i64 0, .int .i64 0] 46)).drewN q
  have b0 : Below w.heap.size w _ := bdrewN ((Below.refl _ w).alloc (Nat.le_refl _) (.cells #[.int .i64 0, .int .i64 0] 46)) q
  have hs0 : ((w.alloc (.cells #[.int .i64 0, .int .i64 0] 46)).drewN q).heap.size = w.heap.size + 1 := by simp
  have hl := h.lt
  generalize (w.alloc (.cells #[.int .i64 0, .int .i64 0] 46)).drewN q = w0 at *
  clear h
  go_wp2_with fail
  generalize hFF : gF X = FF at *
  generalize hPP : gP X = PP at *
  have HFF := Lib.hid hFF; have HPP := Lib.hid hPP; clear hFF hPP
  refine (reget_any X _).mono ?_
  unfold getV
  rw [HFF.out, HPP.out]
  rintro e w1 ⟨rfl, b1⟩
  have hs1 := b1.size
  have t1 := (t0.below b1 t0.lt).alloc (.cells #[.int .i64 FF, .int .i64 PP] 46)
  have c1 := Blk.new w1 46 [.int .i64 FF, .int .i64 PP]
  have h1 := (h0.below b1 (by omega) (by omega)).alloc (.cells #[.int .i64 FF, .int .i64 PP] 46)
  have hb := (Below.down b0 b1 b0.size).alloc (Below.down b0 b1 b0.size).size (.cells #[.int .i64 FF, .int .i64 PP] 46)
  have hne : w1.heap.size ≠ w.heap.size := by omega
  clear t0 h0 b0 b1 hs0 hs1
  have hr : r ≠ w.heap.size := by omega
  have hbb : b ≠ w.heap.size := by omega
  cases hg : gB X
  · rw [show e4 false = 400 from rfl]
    have HG := Lib.hid hg; clear hg
    go_wp2_with fail
    generalize w1.alloc (.cells #[.int .i64 FF, .int .i64 PP] 46) = w2 at *
    generalize w1.heap.size = c at *
    obtain ⟨t10, t11, t1f, t1g⟩ := two_at t1
    obtain ⟨c10, c11, _, _⟩ := two_at c1
    clear t1 c1 h1
    go_region
    all_goals
      go_wp2_with fail
      refine bodyPost_ret (v := .tuple #[.agg #[.int .i64 FF, .int .i64 PP], .bool false]) (by simp [results, Try.results73, go_sem, t10, t11]) rfl ⟨by rw [HFF.out, HPP.out, HG.out]; rfl, ?_⟩
      first | exact (hb.drew.setCell (Nat.le_refl _) _).setCell (Nat.le_refl _) _ | exact ((hb.setCell (Nat.le_refl _) _).setCell (Nat.le_refl _) _).drew
  · rw [show e4 true = 0 from rfl]
    have HG := Lib.hid hg; clear hg
    go_wp2_with fail
    generalize w1.alloc (.cells #[.int .i64 FF, .int .i64 PP] 46) = w2 at *
    generalize w1.heap.size = c at *
    obtain ⟨t10, t11, t1f, t1g⟩ := two_at t1
    obtain ⟨c10, c11, _, _⟩ := two_at c1
    clear t1 c1
    go_region_with (go_at_call 28; refine (rframes_still r b l m HM.out _ ?_).mono ?_; (first | exact h1.drewN 1 | exact ((h1.drewN 1).far (by assumption) (by assumption) _).far (by assumption) (by assumption) _); (rintro e w' ⟨rfl, rfl⟩))
    all_goals
      go_wp2_with fail
      refine bodyPost_ret (v := .tuple #[.agg #[.int .i64 FF, .int .i64 PP], .bool (decide (FF < m))]) (by simp [results, Try.results73, go_sem, t10, t11]) rfl ⟨by rw [HFF.out, HPP.out, HG.out]; rfl, ?_⟩
      first | exact (hb.drew.setCell (Nat.le_refl _) _).setCell (Nat.le_refl _) _ | exact ((hb.setCell (Nat.le_refl _) _).setCell (Nat.le_refl _) _).drew

theorem rO_no (l : List UInt8) (F k : Int) (m : Nat) (h : gB (sW l F k) = false ∨ (m : Int) ≤ gF (sW l F k)) : rO l F k m = false := by
  unfold rO
  rcases h with h | h
  · rw [h]; rfl
  · rw [decide_eq_false (by omega), Bool.and_false]
theorem rO_yes (l : List UInt8) (F k : Int) (m : Nat) (h : gB (sW l F k) = true) (h2 : gF (sW l F k) < m) : rO l F k m = true := by
  unfold rO
  rw [h, decide_eq_true h2]; rfl

/-- What a step's answer is for the document's. -/
theorem r_cases (l : List UInt8) (F k : Int) (m : Nat) (hm : l.length = 64 * m) :
    (rO l F k m = false ∧ sC l F k = 502 ∧ sF l F k = 0 ∧ sP l F k = 0) ∨
    (rO l F k m = true ∧ gP (sW l F k) = 0 ∧ sC l F k = 501 ∧ sF l F k = 0 ∧ sP l F k = 0) ∨
    (rO l F k m = true ∧ gP (sW l F k) ≠ 0 ∧ gF (sW l F k) < m ∧ 0 ≤ gF (sW l F k) ∧ sC l F k = 0 ∧ sF l F k = gF (sW l F k) ∧ sP l F k = gP (sW l F k)) := by
  rcases s_cases l F k m hm with ⟨hb, h⟩ | ⟨hb, hf, h⟩ | ⟨hb, hf, hp, h⟩ | ⟨hb, hf, hp, h⟩
  · exact .inl ⟨rO_no l F k m (.inl hb), h⟩
  · exact .inl ⟨rO_no l F k m (.inr hf), h⟩
  · exact .inr (.inl ⟨rO_yes l F k m hb hf, hp, h⟩)
  · exact .inr (.inr ⟨rO_yes l F k m hb hf, hp, hf, (g_bounds _ hb).1, h⟩)

set_option maxHeartbeats 2000000 in
theorem rwalk_form (r b : Nat) (l : List UInt8) (m : Nat) (R p : Int) (w : World) (h : RM w r b l) (hm : l.length = 64 * m) (hn : ¬ (0 ≤ p ∧ p < 256 ∧ 0 ≤ R ∧ R < m)) :
    Calls Try.prog 74 #[.pointer (some ⟨r, 0, none⟩), .int .i64 R, .int .i64 p] w fun e w' => e = .returned (.tuple #[.agg #[.int .i64 0, .int .i64 0], .int .i64 500]) ∧ Below w.heap.size w w' := by
  have hm64 : m ≤ 64 := by have := h.1; omega
  have hc : p < 0 ∨ (0 ≤ p ∧ 256 ≤ p) ∨ (0 ≤ p ∧ p < 256 ∧ R < 0) ∨ (0 ≤ p ∧ p < 256 ∧ 0 ≤ R ∧ (m : Int) ≤ R) := by omega
  have H := Lib.hid h; have HM := Lib.hid hm; clear h hn hm
  rcases hc with h1 | ⟨h1, h2⟩ | ⟨h1, h2, h3⟩ | ⟨h1, h2, h3, h4⟩
  all_goals
    go_enter Try.func74, Try.ntmps74
    go_wp2_with (go_at_call 28; refine (rframes_still r b l m HM.out _ ?_).mono ?_; exact H.out.alloc _; rintro e w' ⟨rfl, rfl⟩)
    exact bodyPost_ret (v := .tuple #[.agg #[.int .i64 0, .int .i64 0], .int .i64 500]) (by simp [results, Try.results74, go_sem]) rfl ⟨rfl, (((Below.refl _ _).alloc (Nat.le_refl _) _))⟩

set_option maxHeartbeats 4000000 in
theorem rwalk_any (r b : Nat) (l : List UInt8) (R p : Int) (w : World) (h : RM w r b l) :
    Calls Try.prog 74 #[.pointer (some ⟨r, 0, none⟩), .int .i64 R, .int .i64 p] w fun e w' => e = .returned (.tuple #[.agg #[.int .i64 (wF l R p), .int .i64 (wP l R p)], .int .i64 (wC l R p)]) ∧ Below w.heap.size w w' := by
  obtain ⟨m, hm⟩ : ∃ m, l.length = 64 * m := ⟨l.length / 64, by have := h.2.1.2; omega⟩
  have hm64 : m ≤ 64 := by have := h.1; omega
  have hd : l.length / 64 = m := by omega
  rcases w_cases l R p with ⟨ho, e1, e2, e3⟩ | hc
  · rw [e1, e2, e3]
    refine rwalk_form r b l m R p w h hm (fun hh => ?_)
    have := of_decide_eq_false ho
    rw [hd] at this
    exact this hh
  have ho : wOk l R p = true := by rcases hc with ⟨h, _⟩ | ⟨h, _⟩ | ⟨h, _⟩ <;> exact h
  have ho := of_decide_eq_true ho
  rw [hd] at ho
  obtain ⟨h1, h2, h3, h4⟩ := ho
  have HC := Lib.hid hc
  have HR := Lib.hid (r_cases l R (p / 16) m hm)
  have t0 := Blk.new w 46 [.int .i64 0, .int .i64 0]
  have HM := Lib.hid hm
  have hg := h.lt
  clear hc ho hd hm
  go_enter Try.func74, Try.ntmps74
  go_wp2_with fail
  refine (rframes_still r b l m HM.out _ (h.alloc _)).mono ?_
  rintro e w' ⟨rfl, rfl⟩
  go_wp2_with fail
  refine (rentry_any r b l m _ _ _ (h.alloc _) HM.out h3 h4 (by omega) (by omega)).mono ?_
  rintro e w1 ⟨rfl, b1⟩
  have hs1 := b1.size
  generalize hF1 : gF (sW l R (p / 16)) = F1 at *
  generalize hP1 : gP (sW l R (p / 16)) = P1 at *
  generalize hO1 : rO l R (p / 16) m = O1 at *
  generalize hC1 : sC l R (p / 16) = C1 at *
  generalize hG1 : sF l R (p / 16) = G1 at *
  generalize hQ1 : sP l R (p / 16) = Q1 at *
  clear hC1 hF1 hP1 hO1 hG1 hQ1
  have t1 := ((t0.below b1 t0.lt)).alloc (.cells #[.int .i64 F1, .int .i64 P1] 46)
  have c1 := Blk.new w1 46 [.int .i64 F1, .int .i64 P1]
  have hb : Below w.heap.size w (w1.alloc (.cells #[.int .i64 F1, .int .i64 P1] 46)) := (below_alloc b1).alloc (below_alloc b1).size _
  have h' := ((h.alloc (.cells #[.int .i64 0, .int .i64 0] 46)).below b1 (by simp; omega) (by simp; omega)).alloc (.cells #[.int .i64 F1, .int .i64 P1] 46)
  have hne : w1.heap.size ≠ w.heap.size := by simp at hs1; omega
  obtain ⟨t10, t11, t1f, t1g⟩ := two_at t1
  obtain ⟨c10, c11, _, _⟩ := two_at c1
  rcases HR.out with ⟨ho, e4, e5, e6⟩ | ⟨ho, hp, e4, e5, e6⟩ | ⟨ho, hp, hf, hf0, e4, e5, e6⟩
  · subst ho
    have HV : Hid (wC l R p = 502 ∧ wF l R p = 0 ∧ wP l R p = 0) := by
      apply Lib.hid
      rcases HC.out with ⟨_, hc, e1, e2, e3⟩ | ⟨_, hc, _⟩ | ⟨_, hc, _⟩
      · exact ⟨e1.trans e4, e2, e3⟩
      · omega
      · omega
    clear t0 t1 c1 h' e4 e5 e6
    go_wp2_with fail
    exact bodyPost_ret (v := .tuple #[.agg #[.int .i64 0, .int .i64 0], .int .i64 502]) (by simp [results, Try.results74, go_sem, t10, t11]) rfl ⟨by rw [HV.out.1, HV.out.2.1, HV.out.2.2], (hb.setCell (Nat.le_refl _) _).setCell (Nat.le_refl _) _⟩
  · subst ho hp
    have HV : Hid (wC l R p = 501 ∧ wF l R p = 0 ∧ wP l R p = 0) := by
      apply Lib.hid
      rcases HC.out with ⟨_, hc, e1, e2, e3⟩ | ⟨_, hc, _⟩ | ⟨_, hc, _⟩
      · exact ⟨e1.trans e4, e2, e3⟩
      · omega
      · omega
    clear t0 t1 c1 h' e4 e5 e6
    go_wp2_with fail
    exact bodyPost_ret (v := .tuple #[.agg #[.int .i64 0, .int .i64 0], .int .i64 501]) (by simp [results, Try.results74, go_sem, t10, t11]) rfl ⟨by rw [HV.out.1, HV.out.2.1, HV.out.2.2], (hb.setCell (Nat.le_refl _) _).setCell (Nat.le_refl _) _⟩
  · subst ho
    by_cases h33 : P1 = 3
    · subst h33
      have HV : Hid (wC l R p = sC l F1 (p % 16) ∧ wF l R p = sF l F1 (p % 16) ∧ wP l R p = sP l F1 (p % 16)) := by
        apply Lib.hid
        rcases HC.out with ⟨_, hc, _⟩ | ⟨_, _, hc, _⟩ | ⟨_, hc, _, e1, e2, e3⟩
        · omega
        · omega
        · rw [e5] at e1 e2 e3; exact ⟨e1, e2, e3⟩
      have HR2 := Lib.hid (r_cases l F1 (p % 16) m HM.out)
      clear t0 t1f t1g t10 t11 hne e4 e5 e6 hp HR HC
      go_wp2_with fail
      generalize w1.alloc (.cells #[.int .i64 F1, .int .i64 3] 46) = w2 at *
      generalize w1.heap.size = g1 at *
      refine (rentry_any r b l m _ _ _ h' HM.out hf0 hf (by omega) (by omega)).mono ?_
      rintro e w3 ⟨rfl, b3⟩
      generalize gF (sW l F1 (p % 16)) = F2 at *
      generalize gP (sW l F1 (p % 16)) = P2 at *
      generalize rO l F1 (p % 16) m = O2 at *
      generalize sC l F1 (p % 16) = C2 at *
      generalize sF l F1 (p % 16) = G2 at *
      generalize sP l F1 (p % 16) = Q2 at *
      have t3 := (t1.below b3 t1.lt).alloc (.cells #[.int .i64 F2, .int .i64 P2] 46)
      have c3 := Blk.new w3 46 [.int .i64 F2, .int .i64 P2]
      have hb3 := (Below.down hb b3 hb.size).alloc (Below.down hb b3 hb.size).size (.cells #[.int .i64 F2, .int .i64 P2] 46)
      have hne : w3.heap.size ≠ w.heap.size := by have := t1.lt; have := b3.size; omega
      obtain ⟨t10, t11, t1f, t1g⟩ := two_at t3
      obtain ⟨d10, d11, _, _⟩ := two_at c3
      clear t1 b3 hb c1 h' c10 c11 t3 c3
      rcases HR2.out with ⟨ho, e4, e5, e6⟩ | ⟨ho, hp, e4, e5, e6⟩ | ⟨ho, hp, hf, hf0, e4, e5, e6⟩
      · have E := Lib.hid (And.intro e4 (And.intro e5 e6))
        subst ho
        clear e4 e5 e6
        go_wp2_with fail
        exact bodyPost_ret (v := .tuple #[.agg #[.int .i64 0, .int .i64 0], .int .i64 502]) (by simp [results, Try.results74, go_sem, t10, t11]) rfl ⟨by rw [HV.out.1, HV.out.2.1, HV.out.2.2, E.out.1, E.out.2.1, E.out.2.2], (hb3.setCell (Nat.le_refl _) _).setCell (Nat.le_refl _) _⟩
      · have E := Lib.hid (And.intro e4 (And.intro e5 e6))
        subst ho hp
        clear e4 e5 e6
        go_wp2_with fail
        exact bodyPost_ret (v := .tuple #[.agg #[.int .i64 0, .int .i64 0], .int .i64 501]) (by simp [results, Try.results74, go_sem, t10, t11]) rfl ⟨by rw [HV.out.1, HV.out.2.1, HV.out.2.2, E.out.1, E.out.2.1, E.out.2.2], (hb3.setCell (Nat.le_refl _) _).setCell (Nat.le_refl _) _⟩
      · have E := Lib.hid (And.intro e4 (And.intro e5 e6))
        have hp' : (P2 == 0) = false := by simpa using hp
        subst ho
        clear e4 e5 e6 hp hf hf0
        go_wp2_with fail
        exact bodyPost_ret (v := .tuple #[.agg #[.int .i64 F2, .int .i64 P2], .int .i64 0]) (by simp [results, Try.results74, go_sem, t10, t11]) rfl ⟨by rw [HV.out.1, HV.out.2.1, HV.out.2.2, E.out.1, E.out.2.1, E.out.2.2], (hb3.setCell (Nat.le_refl _) _).setCell (Nat.le_refl _) _⟩
    · have HV : Hid (wC l R p = 502 ∧ wF l R p = 0 ∧ wP l R p = 0) := by
        apply Lib.hid
        rcases HC.out with ⟨_, hc, _⟩ | ⟨_, _, _, e1, e2, e3⟩ | ⟨_, _, hc, _⟩
        · omega
        · exact ⟨e1, e2, e3⟩
        · omega
      have hp1 : (P1 != 0) = true := by simpa using hp
      have hp2 : (P1 != 3) = true := by simpa using h33
      clear t0 t1 c1 h' e4 e5 e6 hp h33
      go_wp2_with fail
      exact bodyPost_ret (v := .tuple #[.agg #[.int .i64 0, .int .i64 0], .int .i64 502]) (by simp [results, Try.results74, go_sem, t10, t11]) rfl ⟨by rw [HV.out.1, HV.out.2.1, HV.out.2.2], (hb.setCell (Nat.le_refl _) _).setCell (Nat.le_refl _) _⟩

end Go.Proofs.Ytggdbiniklchoaa
