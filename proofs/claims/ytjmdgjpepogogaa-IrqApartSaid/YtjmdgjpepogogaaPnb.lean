/-
  Contracts of package pending: hasPart, isPlace, Raise, Take, Clear.
-/
import Derived.Test.YtjmdgjpepogogaaPna
namespace Go.Proofs.Ytjmdgjpepogogaa
open Go.RowKit Go.ChangeMaps
set_option linter.unusedVariables false
set_option maxRecDepth 100000

/-- Pointers to blocks. -/
def ptrs (xs : List Nat) : List Value := xs.map (fun x => .pointer (some ⟨x, 0, none⟩))

/-- The program's Sets at block s: n sets, at the blocks xs; O tells whose a block is (1: its own, p + 2: set p's, 0: nobody's); F: what waits, place p * 32 + k. -/
structure PS (w : World) (s n : Nat) (v : Value) (xs : List Nat) (O : Nat → Nat) (F : Nat → Bool) : Prop where
  blk : Blk w s 92 [v]
  row : w.ownsRow 0 93 1 v n (ptrs xs)
  len : xs.length = n
  os : O s = 1
  orow : ∀ g, v.ownBlock = some g → O g = 1
  sets : ∀ p, p < n → SetIs (fun b => O b = p + 2) w (xs.getD p 0) (fun k => F (p * 32 + k))
  n4 : n ≤ 4
  lt : ∀ b, O b ≠ 0 → b < w.heap.size

section
variable {w w' : World} {s n : Nat} {v : Value} {xs : List Nat} {O : Nat → Nat} {F : Nat → Bool}
theorem PS.stay (h : PS w s n v xs O F) (hk : ∀ b, b < w.heap.size → O b ≠ 0 → w'.heap[b]? = w.heap[b]?) (hsz : w.heap.size ≤ w'.heap.size) : PS w' s n v xs O F := by
  refine ⟨(hk s h.blk.lt (by rw [h.os]; decide)).trans h.blk, ?_, h.len, h.os, h.orow, fun p hp => (h.sets p hp).stay (fun b hb hO => hk b hb (by rw [hO]; omega)), h.n4, fun b hb => Nat.lt_of_lt_of_le (h.lt b hb) hsz⟩
  have hr := h.row
  refine ⟨hr.1, ?_⟩
  rcases hr.2 with h2 | ⟨g, cap, cur, hv, hb, hg, h3⟩
  · exact .inl h2
  · exact .inr ⟨g, cap, cur, hv, hb, (hk g (Array.getElem?_eq_some_iff.1 hg).1 (by rw [h.orow g (by rw [hv]; rfl)]; decide)).trans hg, h3⟩
theorem PS.below {B : Nat} (h : PS w s n v xs O F) (hb : Below B w w') (hB : w.heap.size ≤ B) : PS w' s n v xs O F := h.stay (fun b hb' _ => hb.block b (by omega)) hb.size
theorem PS.drewN (h : PS w s n v xs O F) (q : Nat) : PS (w.drewN q) s n v xs O F := h.stay (fun _ _ _ => rfl) (Nat.le_refl _)
theorem PS.at0 (h : PS w s n v xs O F) : w.cell? ⟨s, 0, none⟩ = some v := by rw [h.blk.cell]; rfl
theorem PS.form (h : PS w s n v xs O F) : ∃ A cap, v = .slice A n cap ∧ n ≤ cap := by
  obtain ⟨A, cap, h1, h2, _⟩ := Sl.own h.row
  exact ⟨A, cap, h1, h2⟩
theorem PS.ptr (h : PS w s n v xs O F) (p : Nat) (hp : p < n) : ∃ g cap, v = .slice (some ⟨g, 0, none⟩) n cap ∧ n ≤ cap ∧ g < w.heap.size ∧ w.cell? ⟨g, p, none⟩ = some (.pointer (some ⟨xs.getD p 0, 0, none⟩)) := by
  obtain ⟨A, cap, e, hc, _, hA⟩ := Sl.own h.row
  obtain ⟨b, o, rfl, hb, hcell⟩ := hA (by omega)
  obtain ⟨hl, ⟨e2, hn⟩ | ⟨g, cap', cur, e2, _, _, _⟩⟩ := h.row
  · omega
  · rw [e] at e2
    simp only [Value.slice.injEq, Option.some.injEq, Addr.mk.injEq] at e2
    obtain ⟨⟨rfl, rfl, _⟩, _, rfl⟩ := e2
    refine ⟨b, cap, e, hc, hb, ?_⟩
    have := hcell p (.pointer (some ⟨xs.getD p 0, 0, none⟩)) (by
      have hx : p < xs.length := by rw [h.len]; exact hp
      simp [ptrs, List.getD, List.getElem?_eq_getElem hx])
    simpa using this

/-- Whose a block is behind a call on set p: what is new is the set's, where ok. -/
def ownN (O : Nat → Nat) (w w' : World) (p : Nat) (ok : Nat → Bool) (b : Nat) : Nat := if b < w.heap.size then O b else if b < w'.heap.size ∧ ok b = true then p + 2 else 0

theorem PS.turn (h : PS w s n v xs O F) {p : Nat} (hp : p < n) (fo : Fo (fun b => O b = p + 2) w w') {G : Nat → Bool} (ok : Nat → Bool) (hG : ∀ q k, q ≠ p → k < 32 → G (q * 32 + k) = F (q * 32 + k))
    (hs : SetIs (fun b => Nw (fun b => O b = p + 2) w b ∧ ok b = true) w' (xs.getD p 0) (fun k => G (p * 32 + k))) : PS w' s n v xs (ownN O w w' p ok) G := by
  have hO : ∀ b, b < w.heap.size → ownN O w w' p ok b = O b := fun b hb => by unfold ownN; rw [if_pos hb]
  have hst : ∀ b, b < w.heap.size → O b ≠ p + 2 → w'.heap[b]? = w.heap[b]? := fun b hb hne => fo.block b hb hne
  refine ⟨(hst s h.blk.lt (by rw [h.os]; omega)).trans h.blk, ?_, h.len, by rw [hO s h.blk.lt]; exact h.os, fun g hg => by rw [hO g (h.row.lt g hg).2]; exact h.orow g hg, fun q hq => ?_, h.n4, fun b hb => ?_⟩
  · have hr := h.row
    refine ⟨hr.1, ?_⟩
    rcases hr.2 with h2 | ⟨g, cap, cur, hv, hb, hg, h3⟩
    · exact .inl h2
    · exact .inr ⟨g, cap, cur, hv, hb, (hst g (Array.getElem?_eq_some_iff.1 hg).1 (by rw [h.orow g (by rw [hv]; rfl)]; omega)).trans hg, h3⟩
  · by_cases e : q = p
    · subst e
      refine hs.lim.weak (fun b hb => ?_)
      obtain ⟨⟨h1, h2⟩, h3⟩ := hb
      unfold ownN
      rcases h1 with h1 | h1
      · rw [if_pos (h.lt b (by rw [h1]; omega))]; exact h1
      · rw [if_neg (by omega), if_pos ⟨h3, h2⟩]
    · have h1 := ((h.sets q hq).stay (w' := w') (fun b hb hO' => hst b hb (by rw [hO']; omega))).fn (G := fun k => G (q * 32 + k)) (fun k hk => (hG q k e hk).symm)
      refine h1.weak (fun b hb => ?_)
      rw [hO b (h.lt b (by rw [hb]; omega))]; exact hb
  · unfold ownN at hb
    by_cases h1 : b < w.heap.size
    · exact Nat.lt_of_lt_of_le h1 fo.size
    · rw [if_neg h1] at hb
      by_cases h2 : b < w'.heap.size ∧ ok b = true
      · exact h2.1
      · rw [if_neg h2] at hb; exact absurd rfl hb
end

/-- Is there such a partition? A place? -/
def hP (n : Nat) (p : Int) : Bool := decide (0 ≤ p ∧ p < n)
def isP (d v : Int) : Bool := decide (0 ≤ d ∧ d < 4 ∧ 0 ≤ v ∧ v < 8)

theorem has_any (s n : Nat) (v : Value) (xs : List Nat) (O : Nat → Nat) (F : Nat → Bool) (p : Int) (w : World) (h : PS w s n v xs O F) :
    Calls Try.prog 54 #[.pointer (some ⟨s, 0, none⟩), .int .i64 p] w fun e w' => e = .returned (.bool (hP n p)) ∧ w = w' := by
  obtain ⟨A, cap, rfl, hc⟩ := h.form
  have c0 := h.at0
  have hn := h.n4
  have hsl := h.blk.lt
  clear h
  by_cases h1 : 0 ≤ p
  · by_cases h2 : p < n
    · rw [show hP n p = true by unfold hP; simp; omega]
      go_enter Try.func54, Try.ntmps54
      go_wp2_with fail
      go_ret
      exact ⟨rfl, rfl⟩
    · rw [show hP n p = false by unfold hP; simp; omega]
      have h2' : decide (p < (n : Int)) = false := by simp; omega
      clear h2
      go_enter Try.func54, Try.ntmps54
      go_wp2_with fail
      go_ret
      exact ⟨rfl, rfl⟩
  · rw [show hP n p = false by unfold hP; simp; omega]
    have h1' : p < 0 := by omega
    clear h1
    go_enter Try.func54, Try.ntmps54
    go_wp2_with fail
    go_ret
    exact ⟨rfl, rfl⟩

theorem isp_any (d v : Int) (w : World) :
    Calls Try.prog 62 #[.int .i64 d, .int .i64 v] w fun e w' => e = .returned (.bool (isP d v)) ∧ w = w' := by
  by_cases h1 : 0 ≤ d
  · by_cases h2 : d < 4
    · by_cases h3 : 0 ≤ v
      · by_cases h4 : v < 8
        · rw [show isP d v = true by unfold isP; simp; omega]
          go_enter Try.func62, Try.ntmps62
          go_wp2_with fail
          go_ret
          exact ⟨rfl, rfl⟩
        · rw [show isP d v = false by unfold isP; simp; omega]
          have h5 : decide (v < 8) = false := by simp; omega
          clear h4
          go_enter Try.func62, Try.ntmps62
          go_wp2_with fail
          go_ret
          exact ⟨rfl, rfl⟩
      · rw [show isP d v = false by unfold isP; simp; omega]
        have h5 : v < 0 := by omega
        clear h3
        go_enter Try.func62, Try.ntmps62
        go_wp2_with fail
        go_ret
        exact ⟨rfl, rfl⟩
    · rw [show isP d v = false by unfold isP; simp; omega]
      have h5 : 4 ≤ d := by omega
      clear h2
      go_enter Try.func62, Try.ntmps62
      go_wp2_with fail
      go_ret
      exact ⟨rfl, rfl⟩
  · rw [show isP d v = false by unfold isP; simp; omega]
    have h5 : d < 0 := by omega
    clear h1
    go_enter Try.func62, Try.ntmps62
    go_wp2_with fail
    go_ret
    exact ⟨rfl, rfl⟩


/-- What a call on the Sets leaves: what waits is G, new blocks may be its own, nothing else has turned. -/
def PN (w : World) (s n : Nat) (v : Value) (xs : List Nat) (O : Nat → Nat) (G : Nat → Bool) (w' : World) : Prop := ∃ O', PS w' s n v xs O' G ∧ (∀ b, b < w.heap.size → O' b = O b) ∧ Fo (fun b => O b ≠ 0) w w'

theorem praise_no (s n : Nat) (v : Value) (xs : List Nat) (O : Nat → Nat) (F : Nat → Bool) (p d k : Int) (w : World) (h : PS w s n v xs O F) (hb : (hP n p && isP d k) = false) :
    Calls Try.prog 42 #[.pointer (some ⟨s, 0, none⟩), .int .i64 p, .int .i64 d, .int .i64 k] w fun e w' => e = .returned (.tuple #[.bool false, .int .i64 1200]) ∧ w = w' := by
  have cH := has_any s n v xs O F p w h
  have cI := isp_any d k w
  clear h
  cases h1 : hP n p with
  | false =>
    rw [h1] at cH
    clear h1 hb cI
    go_enter Try.func42, Try.ntmps42
    go_wp2_with fail
    refine cH.mono ?_
    rintro e w' ⟨rfl, rfl⟩
    clear cH
    go_wp2_with fail
    go_ret2
    exact ⟨rfl, rfl⟩
  | true =>
    rw [h1] at cH hb
    have h2 : isP d k = false := by simpa using hb
    rw [h2] at cI
    clear h1 h2 hb
    go_enter Try.func42, Try.ntmps42
    go_wp2_with fail
    refine cH.mono ?_
    rintro e w' ⟨rfl, rfl⟩
    clear cH
    go_wp2_with fail
    refine cI.mono ?_
    rintro e w' ⟨rfl, rfl⟩
    clear cI
    go_wp2_with fail
    go_ret2
    exact ⟨rfl, rfl⟩

set_option maxHeartbeats 1000000 in
theorem praise_yes (s n : Nat) (v : Value) (xs : List Nat) (O : Nat → Nat) (F : Nat → Bool) (p d k : Nat) (w : World) (h : PS w s n v xs O F) (hp : p < n) (hd : d < 4) (hk : k < 8) :
    Calls Try.prog 42 #[.pointer (some ⟨s, 0, none⟩), .int .i64 p, .int .i64 d, .int .i64 k] w fun e w' => e = .returned (.tuple #[.bool (!F (p * 32 + (d * 8 + k))), .int .i64 0]) ∧ PN w s n v xs O (putF F (p * 32 + (d * 8 + k))) w' := by
  have cH := has_any s n v xs O F p w h
  have cI := isp_any d k w
  rw [show hP n p = true by unfold hP; simp; omega] at cH
  rw [show isP d k = true by unfold isP; simp; omega] at cI
  obtain ⟨g, cap, hv, hc, hg, hcell⟩ := h.ptr p hp
  have c0 := h.at0
  have hn4 := h.n4
  have cA := sadd_set (fun b => O b = p + 2) (xs.getD p 0) (d * 8 + k) (fun k => F (p * 32 + k)) w (h.sets p hp) (by omega)
  rw [show (d * 8 + k) / 8 = d by omega, show (d * 8 + k) % 8 = k by omega] at cA
  have H := Lib.hid h
  clear h
  obtain ⟨y, hy⟩ : ∃ y, xs.getD p 0 = y := ⟨_, rfl⟩
  rw [hy] at cA hcell
  have HY := Lib.hid hy
  obtain ⟨r, hr⟩ : ∃ r, (!F (p * 32 + (d * 8 + k))) = r := ⟨_, rfl⟩
  simp only [hr] at cA
  rw [hr]
  clear hr hy
  have HV := Lib.hid hv
  rw [hv] at c0
  clear hv
  go_enter Try.func42, Try.ntmps42
  go_wp2_with fail
  refine cH.mono ?_
  rintro e w' ⟨rfl, rfl⟩
  clear cH
  go_wp2_with fail
  refine cI.mono ?_
  rintro e w' ⟨rfl, rfl⟩
  clear cI
  go_wp2_with fail
  refine cA.mono ?_
  rintro e w' ⟨rfl, hs, fo⟩
  have HS := Lib.hid hs
  have FO := Lib.hid fo
  clear hs fo cA c0 hcell
  go_wp2_with fail
  go_ret2
  refine ⟨rfl, ownN O w w' p (fun _ => true), H.out.turn hp FO.out (fun _ => true) ?_ ?_, fun b hb => by unfold ownN; rw [if_pos hb], FO.out.mono (fun b _ e => by rw [e]; omega)⟩
  · intro q i hq hi
    unfold putF
    rw [if_neg (by omega)]
  · rw [HY.out]
    refine (HS.out.weak (fun b hb => ⟨hb, rfl⟩)).fn (fun i hi => ?_)
    unfold putF
    by_cases e : i = d * 8 + k
    · subst e; simp
    · rw [if_neg e, if_neg (by omega)]
end Go.Proofs.Ytjmdgjpepogogaa
