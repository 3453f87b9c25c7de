/-
  Layer 10's law SchedApart: it answers true for every input.
-/
import Derived.Test.YtljgecnpohmmfaaSchAwake
import Derived.Test.YtljgecnpohmmfaaSch6
import Derived.Test.YtljgecnpohmmfaaSch7
namespace Go.Proofs.Ytljgecnpohmmfaa
open Go.RowKit
set_option linter.unusedVariables false
set_option linter.unusedSimpArgs false
set_option maxRecDepth 100000

/-- The windows of p among the first k. -/
def mine (l : List Win) (p : Int) (k : Nat) : List Win := (l.take k).filter (fun x => decide (x.p = p))
theorem mine_yes (l : List Win) (p : Int) (k : Nat) (hk : k < l.length) (h : l[k].p = p) : mine l p (k + 1) = mine l p k ++ [l[k]] := by
  unfold mine
  rw [List.take_add_one, List.getElem?_eq_getElem hk, List.filter_append]
  simp only [Option.toList_some]
  rw [List.filter_cons_of_pos (by simp [h]), List.filter_nil]
theorem mine_no (l : List Win) (p : Int) (k : Nat) (hk : k < l.length) (h : l[k].p ≠ p) : mine l p (k + 1) = mine l p k := by
  unfold mine
  rw [List.take_add_one, List.getElem?_eq_getElem hk, List.filter_append]
  simp only [Option.toList_some]
  rw [List.filter_cons_of_neg (by simp [h]), List.filter_nil, List.append_nil]
theorem mine_len (l : List Win) (p : Int) (k : Nat) : (mine l p k).length ≤ k := by
  unfold mine
  have := List.length_filter_le (fun x : Win => decide (x.p = p)) (l.take k)
  rw [List.length_take] at this
  omega

theorem own_next {l : List Win} {m p t : Int} (hA : askW l m t = true) (hw : wtW l p m (t % m) m ≠ m) :
    nxtN (l.filter (fun x => decide (x.p = p))) m p t = t + wtW l p m (t % m) m ∧ nxtC (l.filter (fun x => decide (x.p = p))) m p t = 0 ∧ (dlvN (l.filter (fun x => decide (x.p = p))) m t = p ↔ dlvN l m t = p) := by
  have hA2 := hA
  unfold askW at hA2
  rw [Bool.and_eq_true, decide_eq_true_eq] at hA2
  obtain ⟨⟨t0, t1⟩, hM⟩ := hA2
  rcases wt_mem l p m (t % m) m with h | ⟨x, hx, hp, _⟩
  · exact absurd h hw
  have ho := may_own hM ⟨x, hx, hp⟩
  have hao := ask_may ho t0 t1
  have hp0 := (may_in hM hx).1
  refine ⟨?_, ?_, dlv_own hM ⟨x, hx, hp⟩ (by omega) t0 t1⟩
  · unfold nxtN; rw [hao, wt_filter]; simp [hw]
  · unfold nxtC; rw [hao, wt_filter]; simp [hw]

set_option maxHeartbeats 4000000 in
theorem law_SchedApart (v : Value) (n : Nat) (zs : List Int) (m p t : Int) (w : World) (hs : Sl w v n 4 (ints zs)) (hn : n ≤ maxLen) (hl : zs.length = n * 4) (hr : ∀ z ∈ zs, -9223372036854775808 ≤ z ∧ z ≤ 9223372036854775807)
    (hz : ∀ A n c, v = .slice A n c → n * 32 ≤ 140737488351232 ∧ (A = none → c = 0)) :
    Calls Try.prog 7 #[v, .int .i64 m, .int .i64 p, .int .i64 t] w fun e w' => e = .returned (.bool true) ∧ Below w.heap.size w w' := by
  obtain ⟨l, rfl, hll⟩ := wins_of n zs hl
  have hu : Ws w v n l := ⟨hs, hll, hn, w64_of l hr⟩
  obtain ⟨A, cap, rfl⟩ := hu.form
  obtain ⟨hz1, -⟩ := hz A n cap rfl
  have HU := Lib.hid hu
  have HL := Lib.hid hll
  obtain ⟨i0, hi, hz0, hz1', hz2⟩ := info_parts infoWin
  have HI := Lib.hid hi; have HZ0 := Lib.hid hz0; have HZ1 := Lib.hid hz1'; have HZ2 := Lib.hid hz2
  unfold maxLen at hn
  clear hu hs hl hr hll hi hz0 hz1' hz2 hz
  go_enter Try.func7, Try.ntmps7
  go_wp2_with fail
  refine (sawake_any _).mono ?_
  rintro e w1 ⟨rfl, b1⟩
  go_wp2_with fail
  go_loopw [9, 10] (fun q i wr => ∃ (k : Nat), k ≤ n ∧ i = .int .i64 k ∧ wr.ownsRow w.heap.size 36 4 q (mine l p k).length (ints (wins (mine l p k))) ∧ Below w.heap.size w wr) (fun _ i _ => n - (intOf i).toNat)
  case atStart => exact ⟨0, by omega, rfl, World.ownsRow_nil _ _ _ _, b1⟩
  case round =>
    clear b1
    obtain ⟨k, hk, rfl, hown, hbel⟩ := hrel
    have hsz := hbel.size
    by_cases hlt : k < n
    · have hkl : k < l.length := by rw [HL.out]; exact hlt
      obtain ⟨b, o, rfl, hb, c0, c1, c2, c3⟩ := wd_at (HU.out.below hbel).sl HL.out k hkl
      have hyes := Lib.hid (mine_yes l p k hkl)
      have hno := Lib.hid (mine_no l p k hkl)
      have hml := mine_len l p k
      generalize l[k] = x at *
      obtain ⟨xp, xs, xl, xd⟩ := x
      simp only at *
      by_cases he : xp = p
      · have HY := Lib.hid (hyes.out he)
        have he' := he.symm
        clear he hno hyes
        subst he'
        have e1 : (p == p) = true := by simp
        have H1 := Lib.hid (ints_one (wins [⟨p, xs, xl, xd⟩]))
        go_wp2_with (at_builtin; refine wpList_append_own _ rfl _ _ 22 rfl w.heap.size 36 i0 _ 4 32 Try.underlying22 HI.out HZ0.out HZ1.out HZ2.out rfl (by decide) _ (mine l p k).length (ints (wins (mine l p k))) rfl (hown.alloc _) ⟨wr.heap.size, 0, none⟩ 1 1 (ints (wins [⟨p, xs, xl, xd⟩])) rfl rfl (by exact row_new wr (ints (wins [⟨p, xs, xl, xd⟩])) _) H1.out (by unfold maxLen; omega) (by omega) (by simp; omega) ?_)
        intro v' w2 hown' hgrow _
        have hbel2 := below_one _ hown hbel.size hbel hgrow
        clear hgrow hown hbel c0 c1 c2 c3 hb
        go_wp2
        go_roundw
        case rel => exact ⟨k + 1, by omega, by go_num, by rw [HY.out, wins_append, ints_append, List.length_append]; exact hown', hbel2⟩
        case measure => simp [intOf]; omega
      · have e1 : (xp == p) = false := by simpa using he
        have HY := Lib.hid (hno.out he)
        clear he hno hyes c1 c2 c3
        go_wp2_with fail
        go_roundw
        case rel => exact ⟨k + 1, by omega, by go_num, by rw [HY.out]; exact hown, hbel⟩
        case measure => simp [intOf]; omega
    · obtain rfl : k = n := by omega
      have hmk : mine l p k = l.filter (fun x => decide (x.p = p)) := by unfold mine; rw [← HL.out, List.take_length]
      have hml := mine_len l p k
      have hml2 : (mine l p k).length ≤ 9223372036854775807 := by omega
      rw [hmk] at hown hml hml2
      have hown1 := hown.2
      have hw : Ws wr u9 (l.filter (fun x => decide (x.p = p))).length (l.filter (fun x => decide (x.p = p))) := ⟨Sl.own hown, rfl, by unfold maxLen; omega, fun x hx => HU.out.in64 x (List.mem_filter.1 hx).1⟩
      have hown2 := Lib.hid (own_next (l := l) (m := m) (p := p) (t := t))
      clear hmk hown hown1 hml hml2
      generalize l.filter (fun x => decide (x.p = p)) = r at *
      generalize r.length = q at *
      obtain ⟨N2, hN2⟩ : ∃ N2, nxtN r m p t = N2 := ⟨_, rfl⟩
      obtain ⟨C2, hC2⟩ : ∃ C2, nxtC r m p t = C2 := ⟨_, rfl⟩
      rcases nxt_parts l m p t with ⟨hN, hC, hA⟩ | ⟨hN, hC, hA, hww⟩
      · have HN := Lib.hid hN; have HC := Lib.hid hC; have HN2 := Lib.hid hN2; have HC2 := Lib.hid hC2; have HW := Lib.hid hw
        clear hN hC hN2 hC2 hA hown2 hw
        go_wp2_with fail
        refine (nxt_ws (HU.out.below hbel) m p t 0 1000 HN.out HC.out).mono ?_
        rintro e w3 ⟨rfl, b2⟩
        have HW := Lib.hid (HW.out.below b2)
        have hbel := Below.down hbel b2 hbel.size
        clear b2
        go_wp2_with fail
        refine (nxt_ws HW.out m p t N2 C2 HN2.out HC2.out).mono ?_
        rintro e w4 ⟨rfl, b2⟩
        have hbel := Below.down hbel b2 hbel.size
        clear b2
        go_wp2_with (go_at_call 11; refine (num_any _ _).mono ?_; rintro e w' ⟨rfl, rfl⟩)
        go_ret
        exact ⟨rfl, hbel⟩
      · obtain ⟨o1, o2, o3⟩ := hown2.out hA hww
        have o1 := o1.trans hN.symm
        clear hww hown2 hA hN2 hC2
        obtain ⟨K, hK⟩ : ∃ K, nxtN l m p t = K := ⟨_, rfl⟩
        rw [hK] at o1
        obtain ⟨D1, hD1⟩ : ∃ D1, dlvN r m t = D1 := ⟨_, rfl⟩
        obtain ⟨D2, hD2⟩ : ∃ D2, dlvN l m t = D2 := ⟨_, rfl⟩
        rw [hD1, hD2] at o3
        have eK : (K == K) = true := by simp
        have hd : ∃ E : Bool, (D1 == p) = E ∧ (D2 == p) = E ∧ (E == E) = true := ⟨D1 == p, rfl, by rw [Bool.eq_iff_iff]; simp [o3], by simp⟩
        obtain ⟨E, e1, e2, e3⟩ := hd
        have HN := Lib.hid hK; have HC := Lib.hid hC; have HN2 := Lib.hid o1; have HC2 := Lib.hid o2; have HD1 := Lib.hid hD1; have HD2 := Lib.hid hD2; have HW := Lib.hid hw
        clear hN hC hK o1 o2 o3 hD1 hD2 hw
        go_wp2_with fail
        refine (nxt_ws (HU.out.below hbel) m p t K 0 HN.out HC.out).mono ?_
        rintro e w3 ⟨rfl, b2⟩
        have HW := Lib.hid (HW.out.below b2)
        have hbel := Below.down hbel b2 hbel.size
        clear b2
        go_wp2_with fail
        refine (nxt_ws HW.out m p t K 0 HN2.out HC2.out).mono ?_
        rintro e w4 ⟨rfl, b2⟩
        have HW := Lib.hid (HW.out.below b2)
        have hbel := Below.down hbel b2 hbel.size
        clear b2
        go_wp2_with (go_at_call 11; refine (num_any _ _).mono ?_; rintro e w' ⟨rfl, rfl⟩)
        refine (dlv_ws HW.out m t D1 HD1.out).mono ?_
        rintro e w5 ⟨rfl, b2⟩
        have hbel := Below.down hbel b2 hbel.size
        clear b2
        go_wp2_with fail
        refine (dlv_ws (HU.out.below hbel) m t D2 HD2.out).mono ?_
        rintro e w6 ⟨rfl, b2⟩
        have hbel := Below.down hbel b2 hbel.size
        clear b2
        go_wp2_with fail
        go_ret
        exact ⟨rfl, hbel⟩

end Go.Proofs.Ytljgecnpohmmfaa
