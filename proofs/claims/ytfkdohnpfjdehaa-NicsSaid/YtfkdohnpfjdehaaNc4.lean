/-
  Layer 20, the program: New; calls on a Switch that is one of several things.
-/
import Derived.Test.YtfkdohnpfjdehaaNc3
import Derived.Test.YtfkdohnpfjdehaaNcL
import Derived.Test.YtfkdohnpfjdehaaLbs
namespace Go.Proofs.Ytfkdohnpfjdehaa
open Go.RowKit
set_option linter.unusedVariables false
set_option linter.unusedSimpArgs false
set_option maxRecDepth 100000

theorem Tk.addPS {w w' : World} {g : Nat} {ls : List (Int × Int)} {Q : Nat → List Ms} {D : Nat → Int} (h : PS w' g ls (kq Q) Q D) (hb : Below w.heap.size w w') (hg : w.heap.size ≤ g) : Tk nos w [obPS g ls Q D] w' :=
  ⟨fun b => b = g, obs_one.2 ⟨h, fun _ => Iff.rfl⟩, fun k hk e => by omega, Fo.of hb _⟩
/-- No Switch. -/
def zQue : List Value := .int .i64 0 :: (bts (List.replicate 0 0) ++ (List.replicate 8 zLet.toList).flatten ++ [.int .i64 0])
def zSw : Array Value := (.int .i64 0 :: (List.replicate 8 (.int .i64 0) ++ (List.replicate 4 zQue).flatten) : List Value).toArray
theorem zSw_ne : ¬ (zSw = #[]) := by simp [zSw]
theorem zSw_run (w : World) : Sem.run Try.prog (zeroValue 73) w = .ok (.agg zSw) w := by
  have hi : (Try.prog.info? 73).map (fun i => i.zero) = some (some (.agg zSw)) := by kernel_rfl
  obtain ⟨i, h1, h2⟩ := Option.map_eq_some_iff.1 hi
  simp [zeroValue, typeInfo, h1, h2]
theorem zSw_size : zSw.size = 1105 := by kernel_rfl
theorem zSw_cnt : ∀ p, p < 4 → zSw.toList[9 + p * 274]? = some (.int .i64 0) ∧ zSw.toList[9 + p * 274 + 273]? = some (.int .i64 0) := by
  intro p hp
  have : p = 0 ∨ p = 1 ∨ p = 2 ∨ p = 3 := by omega
  rcases this with rfl | rfl | rfl | rfl <;> exact ⟨by kernel_rfl, by kernel_rfl⟩

/-- A Switch on the way: of N partitions, with its first labels. -/
structure Hs (w : World) (g N : Nat) (l : List (Int × Int)) : Prop where
  p4 : N ≤ 4
  ln : l.length ≤ N
  blk : ∃ cs, Blk w g 73 cs ∧ cs.length = 1105 ∧ cs[0]? = some (.int .i64 N) ∧ (∀ i, i < l.length → cs[1 + i * 2]? = some (.int .i64 (labL l i)) ∧ cs[1 + i * 2 + 1]? = some (.int .i64 (labC l i))) ∧ ∀ p, p < 4 → cs[9 + p * 274]? = some (.int .i64 0) ∧ cs[9 + p * 274 + 273]? = some (.int .i64 0)
section
variable {w w' : World} {g N : Nat} {l ls : List (Int × Int)} {Q : Nat → List Ms} {D : Nat → Int}
theorem Hs.lt (h : Hs w g N l) : g < w.heap.size := by obtain ⟨cs, hb, _⟩ := h.blk; exact hb.lt
theorem Hs.frozen (h : Hs w g N l) (i : Nat) : w.frozen? ⟨g, i, none⟩ = false := by obtain ⟨cs, hb, _⟩ := h.blk; exact hb.frozen i
theorem Hs.room (h : Hs w g N l) (i : Nat) (hi : i < 1105) : ∃ u, w.cell? ⟨g, i, none⟩ = some u := by
  obtain ⟨cs, hb, hl, _⟩ := h.blk
  exact ⟨_, by rw [hb.cell]; exact List.getElem?_eq_getElem (by omega)⟩
theorem Hs.below (h : Hs w g N l) (hb : Below w.heap.size w w') : Hs w' g N l := by
  obtain ⟨cs, h1, h2⟩ := h.blk
  exact ⟨h.p4, h.ln, cs, (hb.block g h1.lt).trans h1, h2⟩
theorem Hs.start (w : World) (N : Nat) (hN : N ≤ 4) : Hs (w.alloc (.cells (zSw.setIfInBounds 0 (.int .i64 N)) 73)) w.heap.size N [] := by
  have hb := Blk.new w 73 (zSw.setIfInBounds 0 (.int .i64 N)).toList
  rw [Array.toArray_toList] at hb
  have hl : zSw.toList.length = 1105 := by rw [Array.length_toList, zSw_size]
  refine ⟨hN, Nat.zero_le _, _, hb, by simp [zSw_size], ?_, fun i hi => absurd hi (by simp), fun p hp => ?_⟩
  · rw [Array.toList_setIfInBounds, List.getElem?_set, if_pos rfl, if_pos (by omega)]
  · have := zSw_cnt p hp
    rw [Array.toList_setIfInBounds, List.getElem?_set, List.getElem?_set, if_neg (by omega), if_neg (by omega)]
    exact this
theorem labL_snoc (l : List (Int × Int)) (x : Int × Int) (i : Nat) (h : i < l.length) : labL (l ++ [x]) i = labL l i ∧ labC (l ++ [x]) i = labC l i := by
  unfold labL labC
  simp [List.getD, List.getElem?_append_left h]
theorem labL_last (l : List (Int × Int)) (x : Int × Int) : labL (l ++ [x]) l.length = x.1 ∧ labC (l ++ [x]) l.length = x.2 := by
  unfold labL labC
  simp [List.getD]
/-- One label more. -/
theorem Hs.put (h : Hs w g N l) (hl : l.length < N) (x : Int × Int) : Hs ((w.setCell ⟨g, 1 + l.length * 2, none⟩ (.int .i64 x.1)).setCell ⟨g, 1 + l.length * 2 + 1, none⟩ (.int .i64 x.2)) g N (l ++ [x]) := by
  obtain ⟨cs, hb, hlen, h0, hlab, hz⟩ := h.blk
  have h4 := h.p4
  have hb2 := (hb.set (1 + l.length * 2) (.int .i64 x.1)).set (1 + l.length * 2 + 1) (.int .i64 x.2)
  have e : ∀ i, i ≠ 1 + l.length * 2 → i ≠ 1 + l.length * 2 + 1 → ((cs.set (1 + l.length * 2) (.int .i64 x.1)).set (1 + l.length * 2 + 1) (.int .i64 x.2))[i]? = cs[i]? := fun i h1 h2 => by
    rw [List.getElem?_set, if_neg (fun e => h2 e.symm), List.getElem?_set, if_neg (fun e => h1 e.symm)]
  refine ⟨h4, by simp; omega, _, hb2, by simp [hlen], by rw [e _ (by omega) (by omega)]; exact h0, fun i hi => ?_, fun p hp => ?_⟩
  · simp only [List.length_append, List.length_singleton] at hi
    by_cases hi2 : i < l.length
    · obtain ⟨a, b⟩ := labL_snoc l x i hi2
      rw [a, b, e _ (by omega) (by omega), e _ (by omega) (by omega)]
      exact hlab i hi2
    · obtain rfl : i = l.length := by omega
      obtain ⟨a, b⟩ := labL_last l x
      rw [a, b]
      constructor
      · rw [List.getElem?_set, if_neg (by omega), List.getElem?_set, if_pos rfl, if_pos (by omega)]
      · rw [List.getElem?_set, if_pos rfl, if_pos (by rw [List.length_set]; omega)]
  · rw [e _ (by omega) (by omega), e _ (by omega) (by omega)]
    exact hz p hp
/-- All of it. -/
def noQ : Nat → List Ms := fun _ => []
theorem Hs.all (h : Hs w g N l) (hl : l.length = N) : PS w g l (kq noQ) noQ noI := by
  obtain ⟨cs, hb, hlen, h0, hlab, hz⟩ := h.blk
  have h4 := h.p4
  exact ⟨by omega, fun p => ⟨Nat.zero_le _, fun m hm => by cases hm⟩, fun p => by unfold noI; omega, cs, hb, ⟨hlen, by rw [hl]; exact h0, hlab, fun p hp => (hz p hp).1, fun p hp j v hj => by simp [noQ, lcs] at hj, fun p hp => (hz p hp).2⟩⟩

set_option maxHeartbeats 1000000 in
theorem nnew_any (v : Value) (n : Nat) (ls : List (Int × Int)) (w : World) (h : Sl w v n 2 (ints (lbs ls))) (hln : ls.length = n) (hn : n ≤ maxLen) :
    Calls Try.prog 9 #[v] w fun e w' => (newL ls = true ∧ ∃ g, e = .returned (.tuple #[.pointer (some ⟨g, 0, none⟩), .int .i64 0]) ∧ Tk nos w [obPS g ls noQ noI] w') ∨ (newL ls = false ∧ e = .returned (.tuple #[.pointer none, .int .i64 2000]) ∧ Below w.heap.size w w') := by
  obtain ⟨A, cap, rfl, hc, _, _⟩ := id h
  have H := Lib.hid h; have HL := Lib.hid hln
  unfold maxLen at hn
  clear h hln
  have bad : ¬ (1 ≤ n ∧ n ≤ 4) → newL ls = false := fun h => by unfold newL; rw [HL.out, decide_eq_false h]; rfl
  have good : 1 ≤ n ∧ n ≤ 4 → newL ls = allL ls := fun h => by unfold newL; rw [HL.out, decide_eq_true h, Bool.true_and]
  have BAD := Lib.hid bad; have GOOD := Lib.hid good
  clear bad good
  by_cases h1 : n < 1
  · go_enter Try.func9, Try.ntmps9
    go_wp2_with fail
    go_ret2
    exact .inr ⟨BAD.out (by omega), rfl, Below.refl _ _⟩
  by_cases h2 : 4 < n
  · go_enter Try.func9, Try.ntmps9
    go_wp2_with fail
    go_ret2
    exact .inr ⟨BAD.out (by omega), rfl, Below.refl _ _⟩
  have hz := zSw_run
  have hne := zSw_ne
  have hsz := zSw_size
  have hs0 := Hs.start w n (by omega)
  have hb0 : Below w.heap.size w (w.alloc (.cells (zSw.setIfInBounds 0 (.int .i64 n)) 73)) := (Below.refl _ _).alloc (Nat.le_refl _) _
  go_enter Try.func9, Try.ntmps9
  go_wp2_with fail
  generalize w.alloc (.cells (zSw.setIfInBounds 0 (.int .i64 n)) 73) = w1 at *
  generalize hg : w.heap.size = g at *
  go_loopw [21] (fun i wr => ∃ k : Nat, k ≤ n ∧ i = .int .i64 k ∧ Hid (Hs wr g n (ls.take k) ∧ Below g w wr ∧ ∀ j (hj : j < ls.length), j < k → lB ls[j].1 ls[j].2 = true)) (fun i _ => n - (intOf i).toNat)
  case atStart => exact ⟨0, by omega, rfl, Lib.hid ⟨hs0, hb0, fun j _ h => by omega⟩⟩
  case round =>
    clear hs0 hb0
    obtain ⟨k, hk, rfl, HH⟩ := hrel
    by_cases hlt : k < n
    · have hkl : k < ls.length := by rw [HL.out]; exact hlt
      obtain ⟨hs, hb, hall⟩ := HH.out
      obtain ⟨b, o, rfl, hbo, c0, c1⟩ := lb_at (H.out.below (by rw [hg]; exact hb)) HL.out k hkl
      have hx : Hid (∃ x, x = ls[k]) := Lib.hid ⟨_, rfl⟩
      have HX : Hid (ls.take (k + 1) = ls.take k ++ [ls[k]]) := Lib.hid (List.take_succ_eq_append_getElem hkl)
      have HTL : Hid ((ls.take k).length = k) := Lib.hid (by rw [List.length_take]; omega)
      have HALL := Lib.hid hall
      have HNO : Hid (lB ls[k].1 ls[k].2 = false → newL ls = false) := Lib.hid (fun e => by rw [GOOD.out (by omega)]; exact allL_no hkl e)
      have HEQ : Hid (∀ j (hj : j < ls.length), j < k + 1 → lB ls[k].1 ls[k].2 = true → lB ls[j].1 ls[j].2 = true) := Lib.hid (fun j hj h1 h2 => by
        rcases Nat.lt_or_ge j k with h3 | h3
        · exact hall j hj h3
        · obtain rfl : j = k := by omega
          exact h2)
      generalize ls[k] = x at *
      obtain ⟨x1, x2⟩ := x
      simp only at c0 c1 HNO HEQ
      have HS := Lib.hid hs; have HB := Lib.hid hb
      clear hs hb hall HH hx
      go_wp2_with fail
      have hv := Blk.new wr 54 [.int .i64 x1, .int .i64 x2]
      have hva : Below wr.heap.size wr (wr.alloc (.cells #[.int .i64 x1, .int .i64 x2] 54)) := (Below.refl _ wr).alloc (Nat.le_refl _) _
      generalize wr.alloc (.cells #[.int .i64 x1, .int .i64 x2] 54) = wa at *
      refine (lmay_any _ _ _).mono ?_
      rintro e w2 ⟨rfl, b2⟩
      have hv2 := hv.below b2 hv.lt
      have b2' : Below wr.heap.size wr w2 := Below.down hva b2 hva.size
      have hs2 := HS.out.below b2'
      have hb2 := Below.down HB.out b2' (by have := HB.out.size; omega)
      clear hv hva b2 b2'
      generalize wr.heap.size = c at *
      cases hL : lB x1 x2 with
      | false =>
        have HF := Lib.hid (HNO.out hL)
        have HB2 := Lib.hid hb2
        clear hL hs2 hb2 hv2
        go_wp2_with fail
        go_ret2
        exact .inr ⟨HF.out, rfl, by rw [hg]; exact HB2.out⟩
      | true =>
        have HT := Lib.hid hL
        have x0 : w2.drew.cell? ⟨c, 0, none⟩ = some (.int .i64 x1) := hv2.cell 0
        have y0 : w2.drew.cell? ⟨c, 1, none⟩ = some (.int .i64 x2) := hv2.cell 1
        have y0' : w2.cell? ⟨c, 1, none⟩ = some (.int .i64 x2) := hv2.cell 1
        have x0' : w2.cell? ⟨c, 0, none⟩ = some (.int .i64 x1) := hv2.cell 0
        have hs3 : Hs w2.drew g n (ls.take k) := hs2.below (bdrewN (Below.refl _ _) 1)
        have hb3 : Below g w w2.drew := bdrewN hb2 1
        have hk4 : (k : Int) < 4 := by omega
        obtain ⟨u0, r0⟩ := hs3.room (1 + k * 2) (by omega)
        obtain ⟨u1, r1⟩ := hs3.room (1 + k * 2 + 1) (by omega)
        have f0 := hs3.frozen (1 + k * 2)
        have f1 := hs3.frozen (1 + k * 2 + 1)
        have h4 := hs3.put (by rw [HTL.out]; exact hlt) (x1, x2)
        rw [HTL.out] at h4
        simp only at h4
        rw [← HX.out] at h4
        have H4 := Lib.hid h4
        have HB4 : Hid (Below g w ((w2.drew.setCell ⟨g, 1 + k * 2, none⟩ (.int .i64 x1)).setCell ⟨g, 1 + k * 2 + 1, none⟩ (.int .i64 x2))) := Lib.hid ((hb3.setCell (by show g ≤ g; omega) _).setCell (by show g ≤ g; omega) _)
        clear hL hv2 hs2 hb2 hs3 hb3 h4 c0 c1
        go_wp2_with fail
        go_still_tail 6, (by kernel_rfl)
        change wpList _ _ _ _ _ w2.drew
        clear x0' y0'
        generalize w2.drew = wd at *
        go_wp2_with fail
        go_roundw
        case rel => exact ⟨k + 1, by omega, by go_num, Lib.hid ⟨H4.out, HB4.out, fun j hj hj2 => HEQ.out j hj hj2 HT.out⟩⟩
        case measure => simp [intOf]; omega
    · obtain rfl : k = n := by omega
      go_wp2_with fail
      go_ret2
      have hall : newL ls = true := by rw [GOOD.out (by omega)]; exact allL_yes (fun j hj => HH.out.2.2 j hj (by rw [← HL.out]; exact hj))
      refine .inl ⟨hall, g, rfl, ?_⟩
      have h1 := HH.out.1
      rw [List.take_of_length_le (by rw [HL.out]; omega)] at h1
      exact Tk.addPS (h1.all HL.out) (by rw [hg]; exact HH.out.2.1) (by omega)
end

section
variable {S : Nat → Prop} {W0 : World} {os os' : List Ob} {i g : Nat} {ls : List (Int × Int)} {Q : Nat → List Ms} {D : Nat → Int}
theorem tk_nsend (a b : Int) (s : ByteArray) (w : World) (t : Tk S W0 os w) (hi : os[i]? = some (obPS g ls Q D)) (hs : s.size ≤ maxLen) (C : Int) (hC : nsC ls a b s.size = C) (ho : os.set i (obPS g ls (nsQ ls Q a b s.data.toList) (nsD ls Q D a b s.size)) = os') :
    Calls Try.prog 15 #[.pointer (some ⟨g, 0, none⟩), .int .i64 a, .int .i64 b, .string s] w fun e w' => e = .returned (.int .i64 C) ∧ Tk S W0 os' w' := by
  obtain ⟨d, k⟩ := t.ps hi
  subst hC ho
  exact (nsend_any a b s d hs).mono fun e w' ⟨h1, h2, h3⟩ => ⟨h1, k w' _ _ h2 h3⟩
theorem tk_nrecv (p : Int) (w : World) (t : Tk S W0 os w) (hi : os[i]? = some (obPS g ls Q D)) (m : Ms) (C : Int) (hm : nrM ls Q p = m) (hC : nrC ls Q p = C) (ho : os.set i (obPS g ls (nrQ ls Q p) D) = os') :
    Calls Try.prog 17 #[.pointer (some ⟨g, 0, none⟩), .int .i64 p] w fun e w' => e = .returned (.tuple #[.agg #[.int .i64 m.f, .string (str m.s)], .int .i64 C]) ∧ Tk S W0 os' w' := by
  obtain ⟨d, k⟩ := t.ps hi
  subst hC ho hm
  exact (nrecv_any p d).mono fun e w' ⟨h1, h2, h3⟩ => ⟨h1, k w' _ _ h2 h3⟩
theorem tk_nqueue (p : Int) (w : World) (t : Tk S W0 os w) (hi : os[i]? = some (obPS g ls Q D)) (q : List Ms) (hq : nqX ls Q p = q) :
    Calls Try.prog 19 #[.pointer (some ⟨g, 0, none⟩), .int .i64 p] w fun e w' => ∃ v, e = .returned v ∧ Tk S W0 (obR 41 2 v q.length (mss q) :: os) w' := by
  obtain ⟨d, k⟩ := t.ps hi
  subst hq
  exact (nqueue_any p d).mono fun e w' ⟨v, h1, h2, h3⟩ => ⟨v, h1, t.addR h3 h2⟩
theorem tk_ndrop (p : Int) (w : World) (t : Tk S W0 os w) (hi : os[i]? = some (obPS g ls Q D)) (X : Int) (hX : ndX ls D p = X) :
    Calls Try.prog 22 #[.pointer (some ⟨g, 0, none⟩), .int .i64 p] w fun e w' => e = .returned (.int .i64 X) ∧ w = w' := by
  obtain ⟨d, k⟩ := t.ps hi
  subst hX
  exact ndrop_any p d
theorem tk_nnew (v : Value) (n : Nat) (ls : List (Int × Int)) (w : World) (t : Tk S W0 os w) (h : Sl w v n 2 (ints (lbs ls))) (hl : ls.length = n) (hn : n ≤ maxLen) (hB : newL ls = true) :
    Calls Try.prog 9 #[v] w fun e w' => ∃ g, e = .returned (.tuple #[.pointer (some ⟨g, 0, none⟩), .int .i64 0]) ∧ Tk S W0 (obPS g ls noQ noI :: os) w' :=
  (nnew_any v n ls w h hl hn).mono fun e w' h => by
    rcases h with ⟨_, g, h1, h2⟩ | ⟨h1, _⟩
    · exact ⟨g, h1, t.add (ps := [_]) h2⟩
    · rw [hB] at h1; cases h1
theorem nnew_no (v : Value) (n : Nat) (ls : List (Int × Int)) (w : World) (h : Sl w v n 2 (ints (lbs ls))) (hl : ls.length = n) (hn : n ≤ maxLen) (hB : newL ls = false) :
    Calls Try.prog 9 #[v] w fun e w' => e = .returned (.tuple #[.pointer none, .int .i64 2000]) ∧ Below w.heap.size w w' :=
  (nnew_any v n ls w h hl hn).mono fun e w' h => by
    rcases h with ⟨h1, _⟩ | ⟨_, h2⟩
    · rw [hB] at h1; cases h1
    · exact h2
end

end Go.Proofs.Ytfkdohnpfjdehaa
