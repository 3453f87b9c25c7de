/-
  Contracts of package pending: Take.
-/
import Derived.Test.YtjmdgjpepogogaaPnb
namespace Go.Proofs.Ytjmdgjpepogogaa
open Go.RowKit Go.ChangeMaps
set_option linter.unusedVariables false
set_option maxRecDepth 100000

/-- Places as Irqs of a tick. -/
def tks (t : Int) (l : List Nat) : List Iq := l.map (fun k => ⟨t, ((k / 8 : Nat) : Int), ((k % 8 : Nat) : Int)⟩)
theorem tks_len (t : Int) (l : List Nat) : (tks t l).length = l.length := by simp [tks]
/-- What waits of part p behind a Take. -/
def takF (F : Nat → Bool) (p : Nat) (M : List Iq) : Nat → Bool := fun i => if i / 32 = p then (F i && mkB M (i % 32)) else F i

theorem infoIq : (Try.prog.info? 46).map (fun i => (i.zero, i.size, i.bytes)) = some (some (.agg #[.int .i64 0, .int .i64 0, .int .i64 0]), 3, 24) := by kernel_rfl
theorem iq_one (a b c : Int) : ∀ u ∈ [Value.int .i64 a, .int .i64 b, .int .i64 c], u.oneCell' = true := by
  intro u hu; simp at hu; rcases hu with rfl | rfl | rfl <;> rfl

theorem own_base {w : World} {B B' size n : Nat} {e : TypeId} {v : Value} {xs : List Value} (h : w.ownsRow B e size v n xs) (hB : B' ≤ B) : w.ownsRow B' e size v n xs :=
  ⟨h.1, h.2.imp id (fun ⟨a1, a2, a3, a4, a5, a6⟩ => ⟨a1, a2, a3, a4, Nat.le_trans hB a5, a6⟩)⟩

theorem ptake_no (s n : Nat) (v mv : Value) (xs : List Nat) (O : Nat → Nat) (F : Nat → Bool) (p t : Int) (w : World) (h : PS w s n v xs O F) (hb : hP n p = false) :
    Calls Try.prog 31 #[.pointer (some ⟨s, 0, none⟩), .int .i64 p, .int .i64 t, mv] w fun e w' => e = .returned (.slice none 0 0) ∧ w = w' := by
  have cH := has_any s n v xs O F p w h
  rw [hb] at cH
  clear h hb
  go_enter Try.func31, Try.ntmps31
  go_wp2_with fail
  refine cH.mono ?_
  rintro e w' ⟨rfl, rfl⟩
  clear cH
  go_wp2_with fail
  go_ret
  exact ⟨rfl, rfl⟩

/-- Take's loop: the first j told. -/
structure Tl (w1 : World) (t : Int) (L : List Nat) (j : Nat) (u : Value) (wr : World) : Prop where
  row : wr.ownsRow w1.heap.size 46 3 u j (iqs (tks t (L.take j)))
  below : Below w1.heap.size w1 wr

set_option maxHeartbeats 1000000 in
theorem ptake_yes (s n : Nat) (v mv : Value) (xs : List Nat) (O : Nat → Nat) (F : Nat → Bool) (p : Nat) (t : Int) (M : List Iq) (nM : Nat) (w : World) (h : PS w s n v xs O F) (hp : p < n) (hM : Sl w mv nM 3 (iqs M)) (hl : M.length = nM) (hn : nM ≤ 140737488355328) :
    Calls Try.prog 31 #[.pointer (some ⟨s, 0, none⟩), .int .i64 p, .int .i64 t, mv] w fun e w' => ∃ u, e = .returned u ∧ w'.ownsRow w.heap.size 46 3 u (tkL (fun k => F (p * 32 + k)) M).length (iqs (tks t (tkL (fun k => F (p * 32 + k)) M))) ∧ ∃ O', PS w' s n v xs O' (takF F p M) ∧ (∀ b, b < w.heap.size → O' b = O b) ∧ Fo (fun b => O b ≠ 0) w w' ∧ (∀ b, u.ownBlock = some b → O' b = 0) := by
  have cH := has_any s n v xs O F p w h
  rw [show hP n p = true by unfold hP; simp; omega] at cH
  obtain ⟨g, cap, hv, hc, hg, hcell⟩ := h.ptr p hp
  have c0 := h.at0
  have hn4 := h.n4
  have cT := stake_set (fun b => O b = p + 2) (xs.getD p 0) (fun k => F (p * 32 + k)) mv M nM w (h.sets p hp) hM hl hn
  obtain ⟨L, hL⟩ : ∃ L, tkL (fun k => F (p * 32 + k)) M = L := ⟨_, rfl⟩
  have hL32 : L.length ≤ 32 := by rw [← hL]; unfold tkL; have := List.length_filter_le (fun k => F (p * 32 + k) && !mkB M k) (List.range 32); simpa using this
  rw [hL] at cT ⊢
  have H := Lib.hid h
  clear h hL
  obtain ⟨y, hy⟩ : ∃ y, xs.getD p 0 = y := ⟨_, rfl⟩
  rw [hy] at cT hcell
  have HY := Lib.hid hy
  have HV := Lib.hid hv
  rw [hv] at c0
  clear hv hy
  obtain ⟨i0, hi, hz0, hz1, hz2⟩ := info_parts infoIq
  have HI := Lib.hid hi; have HZ0 := Lib.hid hz0; have HZ1 := Lib.hid hz1; have HZ2 := Lib.hid hz2; clear hi hz0 hz1 hz2
  go_enter Try.func31, Try.ntmps31
  go_wp2_with fail
  refine cH.mono ?_
  rintro e w' ⟨rfl, rfl⟩
  clear cH
  go_wp2_with fail
  refine cT.mono ?_
  rintro e w1 ⟨a, rfl, ra, hs, fo⟩
  obtain ⟨Aa, ca, rfl, hca⟩ := form_of ra
  obtain ⟨z, hz⟩ : ∃ z, z = L.length := ⟨_, rfl⟩
  have RA := Lib.hid ra
  have HS := Lib.hid hs
  have FO := Lib.hid fo
  rw [← hz] at hca hL32 ⊢
  have HZ := Lib.hid hz
  clear ra hs fo cT c0 hcell hz
  have L0 : Hid (Tl w1 t L 0 (.slice none 0 0) w1) := Lib.hid ⟨⟨rfl, .inl ⟨rfl, rfl⟩⟩, Below.refl _ _⟩
  go_wp2_with fail
  go_loopw [9, 26] (fun u i wr => ∃ (j : Nat), j ≤ z ∧ i = .int .i64 j ∧ Hid (Tl w1 t L j u wr)) (fun _ i _ => z - (intOf i).toNat)
  case atStart => exact ⟨0, by omega, rfl, L0⟩
  case round =>
    clear L0
    obtain ⟨j, hj, rfl, HL⟩ := hrel
    by_cases hlt : j < z
    · have hjl : j < L.length := by have := HZ.out; omega
      have hrow := own_below RA.out HL.out.below
      obtain ⟨g', cap', e, _, hgl, _, _, _, hcell⟩ := RW.slice hrow (by omega)
      simp only [Value.slice.injEq] at e
      obtain ⟨rfl, -, -⟩ := e
      obtain ⟨d0, d1⟩ := hcell j hjl
      have hgd := gd_lt L j hjl
      have htk : tks t (L.take (j + 1)) = tks t (L.take j) ++ [⟨t, ((gd L j / 8 : Nat) : Int), ((gd L j % 8 : Nat) : Int)⟩] := by
        unfold tks; rw [List.take_succ_eq_append_getElem hjl, List.map_append, hgd]; rfl
      generalize ((gd L j / 8 : Nat) : Int) = kd at *
      generalize ((gd L j % 8 : Nat) : Int) = kv at *
      have HTK := Lib.hid htk
      clear hrow hcell hgd htk
      have hbl : Below wr.heap.size wr ((wr.alloc (.cells #[.int .i64 kd, .int .i64 kv] 111)).alloc (.cells #[.int .i64 t, .int .i64 kd, .int .i64 kv] 46)) := ((Below.refl _ _).alloc (Nat.le_refl _) _).alloc (by simp) _
      have HBL := Lib.hid hbl
      clear hbl
      go_wp2_with (at_builtin; refine wpList_append_lies _ rfl _ _ 36 rfl w1.heap.size 46 i0 _ 3 24 Try.underlying36 HI.out HZ0.out HZ1.out HZ2.out rfl (by decide) u9 j (iqs (tks t (L.take j))) rfl (own_below HL.out.row HBL.out) ⟨wr.heap.size + 1, 0, none⟩ 1 1 [.int .i64 t, .int .i64 kd, .int .i64 kv] rfl rfl (by have := row_new (wr.alloc (.cells #[.int .i64 kd, .int .i64 kv] 111)) [.int .i64 t, .int .i64 kd, .int .i64 kv] 46; simpa using this) (iq_one _ _ _) (by omega) (by unfold maxLen; omega) (by omega) (by have := HL.out.below.size; simp; omega) _ rfl ?_)
      intro gg cap6 w6 own6 gr6 hat6 hlt6
      have T6 : Hid (Tl w1 t L (j + 1) (.slice (some ⟨gg, 0, none⟩) (j + 1) cap6) w6) := Lib.hid ⟨by rw [HTK.out, iqs_append, iqs_one]; exact own6, (HL.out.below.trans (HBL.out.mono HL.out.below.size)).grown gr6 (by have := HL.out.below.size; simp; omega) (fun i hi => (HL.out.row.lt i hi).1)⟩
      clear own6 gr6 hat6 hlt6 d0 d1
      go_wp2_with fail
      go_roundw
      case rel => exact ⟨j + 1, by omega, by go_num, T6⟩
      case measure => simp [intOf]; omega
    · have e : j = z := by omega
      subst e
      go_wp2_with fail
      go_ret
      have hLT : L.take j = L := List.take_of_length_le (by rw [← HZ.out]; exact Nat.le_refl _)
      have hrow := HL.out.row
      rw [hLT, HZ.out] at hrow
      have hsz := FO.out.size
      have hPS := H.out.turn (G := takF F p M) hp FO.out (fun b => decide ((Value.slice Aa j ca).ownBlock ≠ some b)) (fun q k hq hk => by unfold takF; rw [if_neg (by omega)]) (by
        rw [HY.out]
        refine (HS.out.weak (fun b hb => ⟨hb.1, by have := hb.2; rw [← HZ.out] at this; simpa using this⟩)).fn (fun k hk => ?_)
        unfold takF
        rw [if_pos (by omega), show (p * 32 + k) % 32 = k by omega])
      refine ⟨_, rfl, own_base hrow hsz, _, hPS.below HL.out.below (Nat.le_refl _), fun b hb => by unfold ownN; rw [if_pos hb], (FO.out.mono (fun b _ e => by rw [e]; omega)).trans (Fo.of HL.out.below _), fun b hb => ?_⟩
      have h1 := (HL.out.row.lt b hb).1
      unfold ownN
      rw [if_neg (by omega), if_neg (by omega)]
end Go.Proofs.Ytjmdgjpepogogaa
