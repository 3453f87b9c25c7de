/-
  Contracts of package sched: Delivers, Opens, Next.
-/
import Derived.Test.YtobpggpjboonfaaDoorSch2
import Derived.BigRegion
import Derived.Deep.DeepCutAuto
namespace Go.Proofs.YtobpggpjboonfaaDoor
open Go.RowKit
set_option linter.unusedVariables false
set_option linter.unusedSimpArgs false
set_option maxRecDepth 100000

theorem tmod_pos {t m : Int} (h0 : 0 ≤ t) (h1 : 1 ≤ m) (h2 : m ≤ 64) : IntKind.i64.wrap (t.tmod m) = t % m ∧ 0 ≤ t % m ∧ t % m < m ∧ t.tmod m = t % m := by
  have e : t.tmod m = t % m := Int.tmod_eq_emod_of_nonneg h0
  have a := Int.emod_nonneg t (show m ≠ 0 by omega)
  have b := Int.emod_lt_of_pos t (show 0 < m by omega)
  rw [e]
  exact ⟨IntWalk.i64_in _ (by omega), a, b, rfl⟩

theorem ask_nums {l : List Win} {m t : Int} (h : askW l m t = true) : 0 ≤ t ∧ t ≤ 1048575 ∧ 1 ≤ m ∧ m ≤ 64 := by
  unfold askW at h
  rw [Bool.and_eq_true, decide_eq_true_eq] at h
  have := (mayW_all h.2).1
  exact ⟨h.1.1, h.1.2, this.1, this.2.1⟩

set_option maxHeartbeats 4000000 in
theorem pnxt_any (A : Option Addr) (n cap : Nat) (l : List Win) (m p t : Int) (w : World) (hs : Sl w (.slice A n cap) n 4 (ints (wins l))) (hn : n ≤ maxLen) (hl : l.length = n) (hw : ∀ x ∈ l, W64 x) :
    Calls Tryd.prog 53 #[.slice A n cap, .int .i64 m, .int .i64 p, .int .i64 t] w fun e w' => e = .returned (.tuple #[.int .i64 (nxtN l m p t), .int .i64 (nxtC l m p t)]) ∧ Below w.heap.size w w' := by
  have HC := Lib.hid (pmayAsk_any A n cap l m t w hs hn hl hw)
  have HS := Lib.hid hs; have HL := Lib.hid hl
  unfold maxLen at hn
  clear hs hl hw
  cases hA : askW l m t with
  | false =>
    have hN : nxtN l m p t = 0 := by unfold nxtN; rw [hA]; rfl
    have hC : nxtC l m p t = 1000 := by unfold nxtC; rw [hA]; rfl
    rw [hA] at HC
    rw [hN, hC]
    clear hA hN hC
    go_enter Tryd.func53, Tryd.ntmps53
    go_wp2_with fail
    refine HC.out.mono ?_
    rintro e w1 ⟨rfl, b1⟩
    go_wp2_with fail
    go_ret2
    exact ⟨rfl, b1⟩
  | true =>
    have hN : nxtN l m p t = if wtW l p m (t % m) m ≠ m then t + wtW l p m (t % m) m else 0 := by unfold nxtN; rw [hA]; simp
    have hC : nxtC l m p t = if wtW l p m (t % m) m ≠ m then 0 else 1000 := by unfold nxtC; rw [hA]; simp
    obtain ⟨ht0, ht1, hm0, hm1⟩ := ask_nums hA
    have hfit : Hid (∀ k (hk : k < l.length), fitW l[k] m 4 = true) := Lib.hid (fun k hk => by
      unfold askW at hA
      rw [Bool.and_eq_true] at hA
      exact ((mayW_all hA.2).2 k hk).1)
    rw [hA] at HC
    obtain ⟨hq, hq0, hq1, hq2⟩ := tmod_pos ht0 hm0 hm1
    generalize t % m = q at *
    have HQ := Lib.hid hq; have HN := Lib.hid hN; have HC2 := Lib.hid hC
    clear hA hN hC hq
    have hmne : m ≠ 0 := by omega
    go_enter Tryd.func53, Tryd.ntmps53
    go_wp2_with fail
    refine HC.out.mono ?_
    rintro e w1 ⟨rfl, b1⟩
    have hs1 := b1.size
    go_wp2_with fail
    go_loopw [10, 21] (fun a i wr => ∃ (k : Nat), k ≤ n ∧ i = .int .i64 k ∧ a = .int .i64 (wtW (l.take k) p m q m) ∧ Below w.heap.size w wr) (fun _ i _ => n - (intOf i).toNat)
    case atStart => exact ⟨0, by omega, rfl, rfl, b1⟩
    case round =>
      obtain ⟨k, hk, rfl, rfl, hbel⟩ := hrel
      have hsz := hbel.size
      have ha0 := wt_nonneg (l.take k) p m q m (by omega) (by omega)
      have ha1 := wt_le (l.take k) p m q m
      by_cases hlt : k < n
      · have hkl : k < l.length := by rw [HL.out]; exact hlt
        obtain ⟨b, o, rfl, hb, c0, c1, c2, c3⟩ := wd_at (HS.out.below hbel) HL.out k hkl
        have hst := Lib.hid (wt_take l p m q m k hkl)
        have hft := fit_of (hfit.out k hkl)
        generalize wtW (l.take k) p m q m = a at *
        generalize l[k] = x at *
        obtain ⟨xp, xs, xl, xd⟩ := x
        simp only at *
        have hd0 : 0 ≤ xd ∧ xd < m := by omega
        obtain ⟨hd0, hd1⟩ := hd0
        clear hft
        by_cases he : xp = p
        · have e1 : (xp == p) = true := by simpa using he
          rw [if_pos he] at hst
          have hu : IntKind.i64.wrap (xd - q) = xd - q := IntWalk.i64_in _ (by omega)
          have hv : IntKind.i64.wrap (xd - q + m) = xd - q + m := IntWalk.i64_in _ (by omega)
          obtain ⟨hz, hz0, hz1, hz2⟩ := tmod_pos (t := xd - q + m) (m := m) (by omega) (by omega) (by omega)
          generalize (xd - q + m) % m = z at *
          have HZ := Lib.hid hz2
          have hb2 := Lib.hid (hbel.alloc hsz (.cells #[.int .i64 xp, .int .i64 xs, .int .i64 xl, .int .i64 xd] 71))
          clear hbel hsz b1 hs1 hz2
          have hq := HQ.out
          obtain ⟨M, hM⟩ : ∃ M, M = if z < a then z else a := ⟨_, rfl⟩
          have hM1 : (if z < a then z else a) = M := hM.symm
          have hM2 : (if a < z then a else z) = M := by rw [hM]; split <;> split <;> omega
          have HM := Lib.hid (hst.out.trans hM1)
          clear hM hst
          go_wp2_with fail
          have hcell := (Blk.new wr 71 [.int .i64 xp, .int .i64 xs, .int .i64 xl, .int .i64 xd]).cell 3
          change (wr.alloc (.cells #[.int .i64 xp, .int .i64 xs, .int .i64 xl, .int .i64 xd] 71)).cell? ⟨wr.heap.size, 3, none⟩ = some (.int .i64 xd) at hcell
          have hbl := hb2.out
          rw [he] at hcell hbl
          clear hb2 c0 c1 c2 c3
          generalize wr.alloc (.cells #[.int .i64 p, .int .i64 xs, .int .i64 xl, .int .i64 xd] 71) = w2 at *
          generalize wr.heap.size = g at *
          go_region
          have hE : (xd - q) % m = z := by
            have h9 := HZ.out
            rw [Int.tmod_eq_emod_of_nonneg (show 0 ≤ xd - q + m by omega), Int.add_emod_right] at h9
            exact h9
          rw [hE, hM1]
          have hbd := bdrewN hbl 1
          clear hE hM1 hM2 hz hu hv hq hcell hbl hq2 hb
          go_wp2_with fail
          go_roundw
          case rel => exact ⟨k + 1, by omega, by go_num, by rw [HM.out], hbd⟩
          case measure => simp [intOf]; omega
        · have e1 : (xp == p) = false := by simpa using he
          rw [if_neg he] at hst
          have hb2 := Lib.hid (hbel.alloc hsz (.cells #[.int .i64 xp, .int .i64 xs, .int .i64 xl, .int .i64 xd] 71))
          clear hbel hsz b1 hs1 hq2
          go_wp2_with fail
          go_roundw
          case rel => exact ⟨k + 1, by omega, by go_num, by rw [hst.out], hb2.out⟩
          case measure => simp [intOf]; omega
      · obtain rfl : k = n := by omega
        rw [show l.take k = l by rw [← HL.out, List.take_length]] at *
        by_cases he : wtW l p m q m = m
        · have h1 := Lib.hid (show nxtN l m p t = 0 by rw [HN.out, if_neg (by simpa using he)])
          have h2 := Lib.hid (show nxtC l m p t = 1000 by rw [HC2.out, if_neg (by simpa using he)])
          rw [he]
          clear he ha0 ha1 HN HC2 hq2 hq1 hq0 HQ b1
          go_wp2_with fail
          go_ret2
          exact ⟨by rw [h1.out, h2.out]; rfl, hbel⟩
        · have h1 := Lib.hid (show nxtN l m p t = t + wtW l p m q m by rw [HN.out, if_pos (by simpa using he)])
          have h2 := Lib.hid (show nxtC l m p t = 0 by rw [HC2.out, if_pos (by simpa using he)])
          have e1 : (wtW l p m q m == m) = false := by simpa using he
          clear he HN HC2 hq2 hq1 hq0 HQ b1
          generalize wtW l p m q m = z at *
          go_wp2_with fail
          go_ret2
          exact ⟨by rw [h1.out, h2.out]; rfl, hbel⟩


end Go.Proofs.YtobpggpjboonfaaDoor
