/-
  Contracts of the document's Pending: Take.
-/
import Derived.Test.YtjmdgjpepogogaaPr1
import Derived.Test.YtjmdgjpepogogaaPnc
namespace Go.Proofs.Ytjmdgjpepogogaa
open Go.RowKit Go.ChangeMaps
set_option linter.unusedVariables false
set_option maxRecDepth 100000

/-- What is taken of the first k places of a part; what waits then. -/
def tkN (F : Nat → Bool) (M : List Iq) (k : Nat) : List Nat := (List.range k).filter (fun j => F j && !mkB M j)
def tF (F : Nat → Bool) (p : Nat) (M : List Iq) (k : Nat) : Nat → Bool := fun i => if i / 32 = p ∧ i % 32 < k then (F i && mkB M (i % 32)) else F i
theorem tkN_step (F : Nat → Bool) (M : List Iq) (k : Nat) : tkN F M (k + 1) = tkN F M k ++ (if F k && !mkB M k then [k] else []) := by
  unfold tkN
  rw [List.range_succ, List.filter_append]
  congr 1
  by_cases h : (F k && !mkB M k) = true
  · simp [h]
  · simp [h]
theorem tkN_len (F : Nat → Bool) (M : List Iq) (k : Nat) : (tkN F M k).length ≤ k := by
  unfold tkN; have := List.length_filter_le (fun j => F j && !mkB M j) (List.range k); simpa using this
theorem tks_append (t : Int) (l m : List Nat) : tks t (l ++ m) = tks t l ++ tks t m := by simp [tks]
theorem tF_skip {F : Nat → Bool} {p k : Nat} {M : List Iq} (hk : k < 32) (h : F (p * 32 + k) = false ∨ mkB M k = true) : tF F p M (k + 1) = tF F p M k := by
  funext i
  unfold tF
  by_cases e : i / 32 = p
  · by_cases e2 : i % 32 = k
    · have ei : i = p * 32 + k := by omega
      rw [if_pos ⟨e, by omega⟩, if_neg (by omega)]
      rw [e2, ei]
      rcases h with h | h <;> simp [h]
    · by_cases e3 : i % 32 < k
      · rw [if_pos ⟨e, by omega⟩, if_pos ⟨e, e3⟩]
      · rw [if_neg (by omega), if_neg (by omega)]
  · rw [if_neg (fun h => e h.1), if_neg (fun h => e h.1)]
theorem tF_take {F : Nat → Bool} {p k : Nat} {M : List Iq} (hk : k < 32) (h : mkB M k = false) : tF F p M (k + 1) = bitF (tF F p M k) (p * 32 + k) false := by
  funext i
  unfold bitF
  by_cases ei : i = p * 32 + k
  · rw [if_pos ei]; unfold tF
    subst ei
    rw [if_pos (by omega), show (p * 32 + k) % 32 = k by omega, h]
    simp
  · rw [if_neg ei]; unfold tF
    by_cases e : i / 32 = p
    · by_cases e3 : i % 32 < k
      · rw [if_pos ⟨e, by omega⟩, if_pos ⟨e, e3⟩]
      · rw [if_neg (by omega), if_neg (by omega)]
    · rw [if_neg (fun h => e h.1), if_neg (fun h => e h.1)]

/-- The document's Take, on its way: the first k places seen. -/
structure Td (w : World) (r n b : Nat) (F : Nat → Bool) (p : Nat) (t : Int) (M : List Iq) (k : Nat) (u : Value) (wr : World) : Prop where
  rp : RP wr r n b (tF F p M k)
  row : wr.ownsRow w.heap.size 46 3 u (tkN (fun j => F (p * 32 + j)) M k).length (iqs (tks t (tkN (fun j => F (p * 32 + j)) M k)))
  fo : Fo (fun i => i = b) w wr

theorem rtake_no (r n b : Nat) (F : Nat → Bool) (p t : Int) (mv : Value) (w : World) (h : RP w r n b F) (hb : hP n p = false) :
    Calls Try.prog 34 #[.pointer (some ⟨r, 0, none⟩), .int .i64 p, .int .i64 t, mv] w fun e w' => e = .returned (.slice none 0 0) ∧ w = w' := by
  have c0 := h.at0
  have hn4 := h.n4
  have hrl := h.blk.lt
  clear h
  have hcase : p < 0 ∨ (0 ≤ p ∧ (n : Int) ≤ p) := by unfold hP at hb; simp at hb; omega
  clear hb
  rcases hcase with h1 | ⟨h1, h2⟩
  all_goals
    go_enter Try.func34, Try.ntmps34
    go_wp2_with fail
    go_ret
    exact ⟨rfl, rfl⟩

set_option maxHeartbeats 4000000 in
theorem rtake_yes (r n b : Nat) (F : Nat → Bool) (p : Nat) (t : Int) (mv : Value) (M : List Iq) (nM : Nat) (w : World) (h : RP w r n b F) (hp : p < n) (hM : ∀ w', Fo (fun i => i = b) w w' → Sl w' mv nM 3 (iqs M)) (hl : M.length = nM) (hn : nM ≤ 140737488355328) :
    Calls Try.prog 34 #[.pointer (some ⟨r, 0, none⟩), .int .i64 p, .int .i64 t, mv] w fun e w' => ∃ u, e = .returned u ∧ Td w r n b F p t M 32 u w' := by
  have c0 := h.at0
  have hn4 := h.n4
  have hrl := h.blk.lt
  have hbl := h.row.lt
  have k1 : decide (n ≤ p) = false := by simp; omega
  have k2 : decide ((p : Int) < 0) = false := by simp
  obtain ⟨i0, hi, hz0, hz1, hz2⟩ := info_parts infoIq
  have HI := Lib.hid hi; have HZ0 := Lib.hid hz0; have HZ1 := Lib.hid hz1; have HZ2 := Lib.hid hz2; clear hi hz0 hz1 hz2
  have T0 : Hid (Td w r n b F p t M 0 (.slice none 0 0) w) := Lib.hid ⟨h.fn (fun i _ => by unfold tF; rw [if_neg (by omega)]), ⟨rfl, .inl ⟨rfl, rfl⟩⟩, Fo.refl _ _⟩
  have HM := Lib.hid hM
  clear h hM
  go_enter Try.func34, Try.ntmps34
  go_wp2_with fail
  clear c0 k1 k2
  go_loopw [9, 10] (fun u i wr => ∃ (d : Nat), d ≤ 4 ∧ i = .int .i64 d ∧ Hid (Td w r n b F p t M (d * 8) u wr)) (fun _ i _ => 4 - (intOf i).toNat)
  case atStart => exact ⟨0, by omega, rfl, T0⟩
  case round =>
    clear T0
    obtain ⟨d, hd, rfl, HT⟩ := hrel
    by_cases hlt : d < 4
    · have hdI : (d : Int) < 4 := by omega
      go_wp2_with fail
      go_loopw [9, 11] (fun u i wr => ∃ (v : Nat), v ≤ 8 ∧ i = .int .i64 v ∧ Hid (Td w r n b F p t M (d * 8 + v) u wr)) (fun _ i _ => 8 - (intOf i).toNat)
      case atStart => exact ⟨0, by omega, rfl, HT⟩
      case round =>
        clear HT
        obtain ⟨v, hv, rfl, HT⟩ := hrel
        by_cases hltv : v < 8
        · have hvI : (v : Int) < 8 := by omega
          have h32 : d * 8 + v < 32 := by omega
          have hrp := HT.out.rp
          have c0 := hrp.at0
          have hc := hrp.cell p d v hp hlt hltv
          have hcv : tF F p M (d * 8 + v) (p * 32 + d * 8 + v) = F (p * 32 + (d * 8 + v)) := by
            unfold tF; rw [if_neg (by omega), show p * 32 + d * 8 + v = p * 32 + (d * 8 + v) by omega]
          rw [hcv] at hc
          have hstep := tkN_step (fun j => F (p * 32 + j)) M (d * 8 + v)
          cases hf : F (p * 32 + (d * 8 + v)) with
          | false =>
            rw [hf] at hc
            have T1 : Hid (Td w r n b F p t M (d * 8 + (v + 1)) u9 wr) := Lib.hid ⟨by rw [show d * 8 + (v + 1) = d * 8 + v + 1 by omega, tF_skip h32 (.inl hf)]; exact hrp, by
              rw [show d * 8 + (v + 1) = d * 8 + v + 1 by omega, hstep]; simp only [hf, Bool.false_and, Bool.false_eq_true, if_false, List.append_nil]; exact HT.out.row, HT.out.fo⟩
            clear hf hstep hrp hcv
            go_wp2_with fail
            go_roundw
            case rel => exact ⟨v + 1, by omega, by go_num, T1⟩
            case measure => simp [intOf]; omega
          | true =>
            rw [hf] at hc
            have cA := ramong_any mv M nM d v wr (HM.out wr HT.out.fo) hl hn hltv
            cases hmk : mkB M (d * 8 + v) with
            | true =>
              rw [hmk] at cA
              have T1 : Hid (Td w r n b F p t M (d * 8 + (v + 1)) u9 wr) := Lib.hid ⟨by rw [show d * 8 + (v + 1) = d * 8 + v + 1 by omega, tF_skip h32 (.inr hmk)]; exact hrp, by
                rw [show d * 8 + (v + 1) = d * 8 + v + 1 by omega, hstep]; simp only [hmk, Bool.not_true, Bool.and_false, Bool.false_eq_true, if_false, List.append_nil]; exact HT.out.row, HT.out.fo⟩
              clear hf hstep hrp hcv hmk
              go_wp2_with fail
              refine cA.mono ?_
              rintro e w' ⟨rfl, rfl⟩
              clear cA hc c0
              go_wp2_with fail
              go_roundw
              case rel => exact ⟨v + 1, by omega, by go_num, T1⟩
              case measure => simp [intOf]; omega
            | false =>
              rw [hmk] at cA
              have hst2 : tkN (fun j => F (p * 32 + j)) M (d * 8 + v + 1) = tkN (fun j => F (p * 32 + j)) M (d * 8 + v) ++ [d * 8 + v] := by
                rw [hstep]; simp only [hf, hmk, Bool.not_false, Bool.and_true, if_true]
              have HST := Lib.hid hst2
              have HTF := Lib.hid (tF_take (F := F) (p := p) h32 hmk)
              have hlN := tkN_len (fun j => F (p * 32 + j)) M (d * 8 + v)
              obtain ⟨z, hz⟩ : ∃ z, z = (tkN (fun j => F (p * 32 + j)) M (d * 8 + v)).length := ⟨_, rfl⟩
              rw [← hz] at hlN
              have HZ := Lib.hid hz
              have HRP := Lib.hid hrp
              clear hf hstep hrp hcv hmk hst2 hz
              go_wp2_with fail
              refine cA.mono ?_
              rintro e w' ⟨rfl, rfl⟩
              clear cA
              have hbl3 : Below wr.heap.size wr (wr.alloc (.cells #[.int .i64 t, .int .i64 (d : Int), .int .i64 (v : Int)] 46)) := (Below.refl _ _).alloc (Nat.le_refl _) _
              have BL3 := Lib.hid hbl3
              have hfs := HT.out.fo.size
              clear hbl3
              go_wp2_with (at_builtin; refine wpList_append_lies _ rfl _ _ 36 rfl w.heap.size 46 i0 _ 3 24 Try.underlying36 HI.out HZ0.out HZ1.out HZ2.out rfl (by decide) u9 (tkN (fun j => F (p * 32 + j)) M (d * 8 + v)).length (iqs (tks t (tkN (fun j => F (p * 32 + j)) M (d * 8 + v)))) rfl (own_below HT.out.row BL3.out) ⟨wr.heap.size, 0, none⟩ 1 1 [.int .i64 t, .int .i64 (d : Int), .int .i64 (v : Int)] rfl rfl (row_new wr [.int .i64 t, .int .i64 (d : Int), .int .i64 (v : Int)] 46) (iq_one _ _ _) (by omega) (by unfold maxLen; have := HZ.out; omega) (by have := HZ.out; omega) (by simp; omega) _ rfl ?_)
              intro gg cap6 w6 own6 gr6 hat6 hlt6
              have hrp6 := (HRP.out.below BL3.out (by omega) (by omega)).grown gr6 (fun e => by have := (HT.out.row.lt r e.symm).1; omega) (fun e => by have := (HT.out.row.lt b e.symm).1; omega)
              have fo6 : Fo (fun i => i = b) w w6 := (HT.out.fo.trans (Fo.of BL3.out _)).grown gr6 (fun i hi => .inr (HT.out.row.lt i hi).1)
              have hggb : gg ≠ b := by
                rcases hat6 with h | h
                · have := (HT.out.row.lt gg h).1; omega
                · omega
              have hc6 := hrp6.row.cell (p * 32 + d * 8 + v)
              rw [bitc_get _ _ _ (by omega)] at hc6
              have c06 := hrp6.at0
              have hf6 := hrp6.frozen (p * 32 + d * 8 + v)
              have hrp7 := hrp6.set (p * 32 + d * 8 + v) false
              rw [show p * 32 + d * 8 + v = p * 32 + (d * 8 + v) by omega, ← HTF.out] at hrp7
              have T1 : Hid (Td w r n b F p t M (d * 8 + (v + 1)) (.slice (some ⟨gg, 0, none⟩) ((tkN (fun j => F (p * 32 + j)) M (d * 8 + v)).length + 1) cap6) (w6.setCell ⟨b, p * 32 + d * 8 + v, none⟩ (.bool false))) := Lib.hid (by
                rw [show d * 8 + (v + 1) = d * 8 + v + 1 by omega]
                refine ⟨by rw [show p * 32 + d * 8 + v = p * 32 + (d * 8 + v) by omega]; exact hrp7, ?_, fo6.set (.inl rfl) _⟩
                rw [HST.out, tks_append, iqs_append, List.length_append]
                have e9 : iqs (tks t [d * 8 + v]) = [.int .i64 t, .int .i64 (d : Int), .int .i64 (v : Int)] := by
                  simp only [tks, List.map_cons, List.map_nil, iqs_one, iq3]
                  rw [show (d * 8 + v) / 8 = d by omega, show (d * 8 + v) % 8 = v by omega]
                rw [e9]
                exact own6.kept (row := some b) (gone _) (.inr (by simp [Value.ownBlock]; exact hggb)))
              clear own6 gr6 hat6 hlt6 hrp6 hrp7 fo6 hggb hc c0
              go_wp2_with fail
              go_roundw
              case rel => exact ⟨v + 1, by omega, by go_num, T1⟩
              case measure => simp [intOf]; omega
        · have e : v = 8 := by omega
          subst e
          go_wp2_with fail
          go_roundw
          case rel => exact ⟨d + 1, by omega, by go_num, by rw [show (d + 1) * 8 = d * 8 + 8 by omega]; exact HT⟩
          case measure => simp [intOf]; omega
    · have e : d = 4 := by omega
      subst e
      go_wp2_with fail
      go_ret
      exact ⟨_, rfl, HT.out⟩
end Go.Proofs.Ytjmdgjpepogogaa
