/-
  Layer 15, the document: Assign; there, Owner, Phase, Move.
-/
import Derived.Test.YtgamfejgpdampaaAs3
import Derived.Laws.OwnMore
namespace Go.Proofs.Ytgamfejgpdampaa
open Go.RowKit
set_option linter.unusedVariables false
set_option maxRecDepth 100000

/-- The cells of the document's devices: whose, whose next, how many ticks. -/
def ahF (O : Nat → Int) (L : Nat → Nat) (T : Nat → Int) : Nat → Int := fun i => if i % 3 = 0 then (if L (i / 3) = 0 then O (i / 3) else -1) else if i % 3 = 1 then T (i / 3) else (L (i / 3) : Int)
section
variable (O : Nat → Int) (L : Nat → Nat) (T : Nat → Int) (i : Nat)
theorem ahF_o : ahF O L T (i * 3) = if L i = 0 then O i else -1 := by
  unfold ahF
  rw [if_pos (by omega), show i * 3 / 3 = i by omega]
theorem ahF_t : ahF O L T (i * 3 + 1) = T i := by
  unfold ahF
  rw [if_neg (by omega), if_pos (by omega), show (i * 3 + 1) / 3 = i by omega]
theorem ahF_l : ahF O L T (i * 3 + 2) = (L i : Int) := by
  unfold ahF
  rw [if_neg (by omega), if_neg (by omega), show (i * 3 + 2) / 3 = i by omega]
theorem ahF_def (j : Nat) : ahF O L T j = if j % 3 = 0 then (if L (j / 3) = 0 then O (j / 3) else -1) else if j % 3 = 1 then T (j / 3) else (L (j / 3) : Int) := rfl
theorem iF_at {f : Nat → Int} {k : Nat} {x : Int} {j : Nat} (h : j = k) : iF f k x j = x := by unfold iF; rw [if_pos h]
theorem iF_off {f : Nat → Int} {k : Nat} {x : Int} {j : Nat} (h : j ≠ k) : iF f k x j = f j := by unfold iF; rw [if_neg h]
theorem uN_at {f : Nat → Nat} {k x j : Nat} (h : j = k) : uN f k x j = x := by unfold uN; rw [if_pos h]
theorem uN_off {f : Nat → Nat} {k x j : Nat} (h : j ≠ k) : uN f k x j = f j := by unfold uN; rw [if_neg h]
/-- A device moved. -/
theorem ahF_move (t : Int) (q : Nat) (hq : q ≠ 0) : iF (iF (iF (ahF O L T) (i * 3) (-1)) (i * 3 + 1) t) (i * 3 + 2) q = ahF (iF O i t) (uN L i q) (iF T i t) := by
  funext j
  rw [ahF_def]
  by_cases h : j / 3 = i
  · rw [uN_at h, iF_at h, iF_at h]
    by_cases h0 : j % 3 = 0
    · rw [iF_off (by omega), iF_off (by omega), iF_at (by omega), if_pos h0, if_neg hq]
    · by_cases h1 : j % 3 = 1
      · rw [iF_off (by omega), iF_at (by omega), if_neg h0, if_pos h1]
      · rw [iF_at (by omega), if_neg h0, if_neg h1]
  · rw [uN_off h, iF_off h, iF_off h, iF_off (by omega), iF_off (by omega), iF_off (by omega), ahF_def]
/-- A tick less, which isn't the last. -/
theorem ahF_less (h : L i ≠ 0) (h1 : L i - 1 ≠ 0) : iF (ahF O L T) (i * 3 + 2) ((L i - 1 : Nat) : Int) = ahF O (uN L i (L i - 1)) T := by
  funext j
  rw [ahF_def]
  by_cases e : j / 3 = i
  · rw [uN_at e]
    by_cases h0 : j % 3 = 0
    · rw [iF_off (by omega), ahF_def, if_pos h0, if_pos h0, e, if_neg h, if_neg h1]
    · by_cases h2 : j % 3 = 1
      · rw [iF_off (by omega), ahF_def, if_neg h0, if_pos h2, if_neg h0, if_pos h2]
      · rw [iF_at (by omega), if_neg h0, if_neg h2]
  · rw [uN_off e, iF_off (by omega), ahF_def]
/-- .. the last. -/
theorem ahF_last (h : T i = O i) : iF (iF (ahF O L T) (i * 3 + 2) 0) (i * 3) (O i) = ahF O (uN L i 0) T := by
  funext j
  rw [ahF_def]
  by_cases e : j / 3 = i
  · rw [uN_at e]
    by_cases h0 : j % 3 = 0
    · rw [iF_at (by omega), if_pos h0, if_pos rfl, e]
    · by_cases h2 : j % 3 = 1
      · rw [iF_off (by omega), iF_off (by omega), ahF_def, if_neg h0, if_pos h2, if_neg h0, if_pos h2]
      · rw [iF_off (by omega), iF_at (by omega), if_neg h0, if_neg h2]; rfl
  · rw [uN_off e, iF_off (by omega), iF_off (by omega), ahF_def]
end

/-- The document's table: at block y, the devices at block b. -/
structure DA (w : World) (y b c q P D : Nat) (O : Nat → Int) (L : Nat → Nat) (T : Nat → Int) : Prop where
  q1 : 1 ≤ q
  q8 : q ≤ 8
  p4 : P ≤ 4
  d4 : D ≤ 4
  l8 : ∀ i, L i ≤ 8
  tt : ∀ i, L i ≠ 0 → T i = O i
  dc : D ≤ c
  blk : Blk w y 59 [.int .i64 q, .int .i64 P, .slice (some ⟨b, 0, none⟩) D c]
  row : w.ownsRow 0 61 3 (.slice (some ⟨b, 0, none⟩) D c) D (itc (ahF O L T) (D * 3))
section
variable {w w' : World} {y b c q P D : Nat} {O O' : Nat → Int} {L L' : Nat → Nat} {T T' : Nat → Int}
theorem DA.apart (h : DA w y b c q P D O L T) : y ≠ b := fun e => own_apart_blk h.row h.blk (by decide) (by rw [e]; rfl)
theorem DA.heads (h : DA w y b c q P D O L T) : w.cell? ⟨y, 0, none⟩ = some (.int .i64 q) ∧ w.cell? ⟨y, 1, none⟩ = some (.int .i64 P) ∧ w.cell? ⟨y, 2, none⟩ = some (.slice (some ⟨b, 0, none⟩) D c) := by
  refine ⟨?_, ?_, ?_⟩ <;> (rw [h.blk.cell]; rfl)
theorem DA.at_ (h : DA w y b c q P D O L T) (i : Nat) (hi : i < D) : w.cell? ⟨b, i * 3, none⟩ = some (.int .i64 (if L i = 0 then O i else -1)) ∧ w.cell? ⟨b, i * 3 + 1, none⟩ = some (.int .i64 (T i)) ∧ w.cell? ⟨b, i * 3 + 2, none⟩ = some (.int .i64 (L i : Int)) := by
  refine ⟨?_, ?_, ?_⟩ <;> rw [h.row.cellAt _ (by omega), itc_get _ _ _ (by omega)]
  · rw [ahF_o]
  · rw [ahF_t]
  · rw [ahF_l]
theorem DA.frozen (h : DA w y b c q P D O L T) (i : Nat) : w.frozen? ⟨b, i, none⟩ = false := h.row.frozenAt i
theorem DA.lt (h : DA w y b c q P D O L T) : b < w.heap.size := (h.row.lt b rfl).2
theorem DA.below (h : DA w y b c q P D O L T) (hb : Below w.heap.size w w') : DA w' y b c q P D O L T := ⟨h.q1, h.q8, h.p4, h.d4, h.l8, h.tt, h.dc, h.blk.below hb h.blk.lt, own_below h.row hb⟩
theorem DA.set3 (h : DA w y b c q P D O L T) (i : Nat) (x1 x2 x3 : Int) (l8 : ∀ i, L' i ≤ 8) (tt : ∀ i, L' i ≠ 0 → T' i = O' i) (e : iF (iF (iF (ahF O L T) (i * 3) x1) (i * 3 + 1) x2) (i * 3 + 2) x3 = ahF O' L' T') :
    DA (((w.setCell ⟨b, i * 3, none⟩ (.int .i64 x1)).setCell ⟨b, i * 3 + 1, none⟩ (.int .i64 x2)).setCell ⟨b, i * 3 + 2, none⟩ (.int .i64 x3)) y b c q P D O' L' T' := by
  have r1 := (h.row.stored (i * 3) (.int .i64 x1)).1
  have r2 := (r1.stored (i * 3 + 1) (.int .i64 x2)).1
  have r3 := (r2.stored (i * 3 + 2) (.int .i64 x3)).1
  rw [itc_set, itc_set, itc_set, e] at r3
  have b1 := h.blk.far (p := ⟨b, i * 3, none⟩) h.apart (.int .i64 x1)
  have b2 := b1.far (p := ⟨b, i * 3 + 1, none⟩) h.apart (.int .i64 x2)
  exact ⟨h.q1, h.q8, h.p4, h.d4, l8, tt, h.dc, b2.far (p := ⟨b, i * 3 + 2, none⟩) h.apart (.int .i64 x3), r3⟩
theorem DA.set1 (h : DA w y b c q P D O L T) (i : Nat) (x1 : Int) (l8 : ∀ i, L' i ≤ 8) (tt : ∀ i, L' i ≠ 0 → T' i = O' i) (e : iF (ahF O L T) i x1 = ahF O' L' T') :
    DA (w.setCell ⟨b, i, none⟩ (.int .i64 x1)) y b c q P D O' L' T' := by
  have r1 := (h.row.stored i (.int .i64 x1)).1
  rw [itc_set, e] at r1
  exact ⟨h.q1, h.q8, h.p4, h.d4, l8, tt, h.dc, h.blk.far (p := ⟨b, i, none⟩) h.apart (.int .i64 x1), r1⟩
end
/-- As a thing. -/
def obDA1 (y b c q P D : Nat) (O : Nat → Int) (L : Nat → Nat) (T : Nat → Int) : Ob :=
  ⟨fun S w => DA w y b c q P D O L T ∧ ∀ k, S k ↔ (k = y ∨ k = b), fun ⟨h, e⟩ hk hs => ⟨⟨h.q1, h.q8, h.p4, h.d4, h.l8, h.tt, h.dc, (hk y h.blk.lt ((e y).2 (.inl rfl))).trans h.blk, own_stay h.row (fun b' hb' => by
      have e' : b = b' := by simpa [Value.ownBlock] using hb'
      subst e'
      exact hk b h.lt ((e b).2 (.inr rfl)))⟩, e⟩, fun ⟨h, e⟩ hb => ((e _).1 hb).elim (fun e => e ▸ h.blk.lt) (fun e => e ▸ h.lt)⟩
def obDA (y q P D : Nat) (O : Nat → Int) (L : Nat → Nat) : Ob := obX fun x : Nat × Nat × (Nat → Int) => obDA1 y x.1 x.2.1 q P D O L x.2.2
section
variable {S : Nat → Prop} {W0 w w' : World} {os : List Ob} {i y b c q P D : Nat} {O O' : Nat → Int} {L L' : Nat → Nat} {T T' : Nat → Int}
theorem Tk.da (h : Tk S W0 os w) (hi : os[i]? = some (obDA y q P D O L)) : ∃ b c T, DA w y b c q P D O L T ∧ ∀ w' O' L' T', DA w' y b c q P D O' L' T' → w.grownBy w' (some b) → Tk S W0 (os.set i (obDA y q P D O' L')) w' := by
  obtain ⟨S1, ⟨⟨b, c, T⟩, q⟩, _, k⟩ := h.call hi
  exact ⟨b, c, T, q.1, fun w' O' L' T' hp hg => k w' _ [] ⟨S1, obs_one.2 ⟨(b, c, T'), hp, q.2⟩, fun _ _ h => h, (Fo.refl _ _).grown hg (fun x hx => .inl ((q.2 x).2 (.inr (by injection hx with hx; exact hx.symm))))⟩⟩
end

section
variable {y b c q P D : Nat} {O : Nat → Int} {L : Nat → Nat} {T : Nat → Int}
theorem dathere_any (d : Int) (w : World) (h : DA w y b c q P D O L T) :
    Calls Try.prog 25 #[.pointer (some ⟨y, 0, none⟩), .int .i64 d] w fun e w' => e = .returned (.bool (adB D d)) ∧ w = w' := by
  obtain ⟨_, _, hc⟩ := h.heads
  have HB := Lib.hid (show adB D d = decide (0 ≤ d ∧ d < (D : Int)) from rfl)
  clear h
  by_cases h0 : 0 ≤ d
  · by_cases h1 : d < (D : Int)
    · go_enter Try.func25, Try.ntmps25
      go_wp2
      go_ret
      exact ⟨by rw [HB.out, decide_eq_true (show 0 ≤ d ∧ d < (D : Int) from ⟨h0, h1⟩)]; rfl, rfl⟩
    · go_enter Try.func25, Try.ntmps25
      go_wp2
      go_ret
      exact ⟨by rw [HB.out, decide_eq_false (show ¬ (0 ≤ d ∧ d < (D : Int)) by omega)]; rfl, rfl⟩
  · go_enter Try.func25, Try.ntmps25
    go_wp2
    go_ret
    exact ⟨by rw [HB.out, decide_eq_false (show ¬ (0 ≤ d ∧ d < (D : Int)) by omega)]; rfl, rfl⟩

theorem daowner_any (d : Int) (w : World) (h : DA w y b c q P D O L T) :
    Calls Try.prog 20 #[.pointer (some ⟨y, 0, none⟩), .int .i64 d] w fun e w' => e = .returned (.int .i64 (aoX D O L d)) ∧ w = w' := by
  have H := Lib.hid h
  obtain ⟨_, _, hc⟩ := h.heads
  cases hb : adB D d with
  | true =>
    have HB := Lib.hid hb
    obtain ⟨i, rfl, hi⟩ := adB_way hb
    obtain ⟨_, _, e1⟩ := a_yes D O L i hi
    obtain ⟨c0, _, _⟩ := h.at_ i hi
    rw [e1]
    generalize (if L i = 0 then O i else -1) = X at *
    have hiI : (i : Int) < D := by omega
    clear h hb e1
    go_enter Try.func20, Try.ntmps20
    go_wp2_with fail
    refine (dathere_any _ _ H.out).mono ?_
    rintro e w' ⟨rfl, rfl⟩
    rw [HB.out]
    go_wp2_with fail
    go_ret
    exact ⟨rfl, rfl⟩
  | false =>
    obtain ⟨_, _, e1⟩ := a_no D O L d hb
    have HB := Lib.hid hb
    rw [e1]
    clear h hb e1
    go_enter Try.func20, Try.ntmps20
    go_wp2_with fail
    refine (dathere_any _ _ H.out).mono ?_
    rintro e w' ⟨rfl, rfl⟩
    rw [HB.out]
    go_wp2_with fail
    go_ret
    exact ⟨rfl, rfl⟩

theorem daphase_any (d : Int) (w : World) (h : DA w y b c q P D O L T) :
    Calls Try.prog 18 #[.pointer (some ⟨y, 0, none⟩), .int .i64 d] w fun e w' => e = .returned (.tuple #[.int .i64 (apX D L d), .int .i64 (apC D d)]) ∧ w = w' := by
  have H := Lib.hid h
  obtain ⟨_, _, hc⟩ := h.heads
  cases hb : adB D d with
  | true =>
    have HB := Lib.hid hb
    obtain ⟨i, rfl, hi⟩ := adB_way hb
    obtain ⟨e1, e2, _⟩ := a_yes D O L i hi
    obtain ⟨_, _, c2⟩ := h.at_ i hi
    rw [e1, e2]
    have hiI : (i : Int) < D := by omega
    rcases (show L i = 0 ∨ 0 < L i by omega) with hl | hl
    · rw [show ph (L i) = 0 by simp [ph, hl]]
      rw [hl] at c2
      have c3 : w.cell? ⟨b, i * 3 + 2, none⟩ = some (.int .i64 0) := c2
      clear h hb e1 e2 hl c2
      go_enter Try.func18, Try.ntmps18
      go_wp2_with fail
      refine (dathere_any _ _ H.out).mono ?_
      rintro e w' ⟨rfl, rfl⟩
      rw [HB.out]
      go_wp2_with fail
      go_ret2
      exact ⟨rfl, rfl⟩
    · rw [show ph (L i) = 1 by unfold ph; rw [if_neg (by omega)]]
      have hlI : 0 < (L i : Int) := by omega
      clear h hb e1 e2 hl
      generalize (L i : Int) = l at *
      go_enter Try.func18, Try.ntmps18
      go_wp2_with fail
      refine (dathere_any _ _ H.out).mono ?_
      rintro e w' ⟨rfl, rfl⟩
      rw [HB.out]
      go_wp2_with fail
      go_ret2
      exact ⟨rfl, rfl⟩
  | false =>
    obtain ⟨e1, e2, _⟩ := a_no D O L d hb
    have HB := Lib.hid hb
    rw [e1, e2]
    clear h hb e1 e2
    go_enter Try.func18, Try.ntmps18
    go_wp2_with fail
    refine (dathere_any _ _ H.out).mono ?_
    rintro e w' ⟨rfl, rfl⟩
    rw [HB.out]
    go_wp2_with fail
    go_ret2
    exact ⟨rfl, rfl⟩

theorem damove_no (d t : Int) (w : World) (h : DA w y b c q P D O L T) (hb : amB D P d t = false) :
    Calls Try.prog 12 #[.pointer (some ⟨y, 0, none⟩), .int .i64 d, .int .i64 t] w fun e w' => e = .returned (.int .i64 1500) ∧ w = w' := by
  obtain ⟨_, cP, _⟩ := h.heads
  have H := Lib.hid h; clear h
  unfold amB at hb
  cases hd : adB D d with
  | false =>
    have HB := Lib.hid hd; clear hb hd
    go_enter Try.func12, Try.ntmps12
    go_wp2_with fail
    refine (dathere_any _ _ H.out).mono ?_
    rintro e w' ⟨rfl, rfl⟩
    rw [HB.out]
    go_wp2_with fail
    go_ret
    exact ⟨rfl, rfl⟩
  | true =>
    rw [hd, Bool.true_and] at hb
    have ht : t < 0 ∨ (decide (t < 0) = false ∧ (P : Int) ≤ t) := by
      unfold adB at hb
      simp only [decide_eq_false_iff_not] at hb ⊢
      omega
    have HB := Lib.hid hd; clear hb hd
    rcases ht with ht | ⟨ht, ht2⟩
    all_goals
      go_enter Try.func12, Try.ntmps12
      go_wp2_with fail
      refine (dathere_any _ _ H.out).mono ?_
      rintro e w' ⟨rfl, rfl⟩
      rw [HB.out]
      go_wp2_with fail
      go_ret
      exact ⟨rfl, rfl⟩

theorem damove_busy (i : Nat) (t : Int) (w : World) (h : DA w y b c q P D O L T) (hi : i < D) (ht : adB P t = true) (hl : L i ≠ 0) :
    Calls Try.prog 12 #[.pointer (some ⟨y, 0, none⟩), .int .i64 i, .int .i64 t] w fun e w' => e = .returned (.int .i64 1501) ∧ w = w' := by
  obtain ⟨_, cP, hc⟩ := h.heads
  obtain ⟨_, _, c2⟩ := h.at_ i hi
  have H := Lib.hid h; clear h
  have hiI : (i : Int) < D := by omega
  have HB := Lib.hid (adB_nat hi)
  unfold adB at ht
  simp only [decide_eq_true_eq] at ht
  have t0 : decide (t < 0) = false := by simp; omega
  have t1 : decide ((P : Int) ≤ t) = false := by simp; omega
  have hlI : 0 < (L i : Int) := by omega
  generalize (L i : Int) = l at *
  clear ht hl hi
  go_enter Try.func12, Try.ntmps12
  go_wp2_with fail
  refine (dathere_any _ _ H.out).mono ?_
  rintro e w' ⟨rfl, rfl⟩
  rw [HB.out]
  go_wp2_with fail
  go_ret
  exact ⟨rfl, rfl⟩
end
end Go.Proofs.Ytgamfejgpdampaa
