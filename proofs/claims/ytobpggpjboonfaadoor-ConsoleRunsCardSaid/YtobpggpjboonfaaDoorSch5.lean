/-
  Contracts of the document's windows: Delivers, Opens, Next.
-/
import Derived.Test.YtobpggpjboonfaaDoorSch4
namespace Go.Proofs.YtobpggpjboonfaaDoor
open Go.RowKit
set_option linter.unusedVariables false
set_option linter.unusedSimpArgs false
set_option maxRecDepth 100000

theorem ask_parts (l : List Win) (m t : Int) : (mayW l m 4 = false ∧ askW l m t = false) ∨ (mayW l m 4 = true ∧ askW l m t = false ∧ t < 0) ∨ (mayW l m 4 = true ∧ askW l m t = false ∧ 0 ≤ t ∧ 1048575 < t) ∨ (mayW l m 4 = true ∧ askW l m t = true ∧ 0 ≤ t ∧ t ≤ 1048575) := by
  unfold askW
  cases h : mayW l m 4 with
  | false => exact .inl ⟨rfl, by simp⟩
  | true =>
    by_cases h2 : 0 ≤ t ∧ t ≤ 1048575
    · exact .inr (.inr (.inr ⟨rfl, by rw [decide_eq_true h2]; rfl, h2.1, h2.2⟩))
    · rw [decide_eq_false h2]
      by_cases h3 : t < 0
      · exact .inr (.inl ⟨rfl, rfl, h3⟩)
      · exact .inr (.inr (.inl ⟨rfl, rfl, by omega, by omega⟩))

/-- The document's best so far: -1 stands for none. -/
theorem best_step {u a m best z : Int} (hz0 : 0 ≤ z) (hz1 : z < m) (hb : best = if a = m then -1 else a) (ha : 0 ≤ a) (hu : u = if z < a then z else a) (ham : a ≤ m) :
    (best < 0 ∨ 0 ≤ best ∧ z < best) ∧ z = (if u = m then -1 else u) ∨ 0 ≤ best ∧ best ≤ z ∧ best = (if u = m then -1 else u) := by
  by_cases h1 : a = m
  · rw [if_pos h1] at hb
    left
    rw [if_pos (by omega)] at hu
    rw [if_neg (by omega)]
    omega
  · rw [if_neg h1] at hb
    by_cases h2 : z < a
    · left
      rw [if_pos h2] at hu
      rw [if_neg (by omega)]
      omega
    · right
      rw [if_neg h2] at hu
      rw [if_neg (by omega)]
      omega

set_option maxHeartbeats 4000000 in
theorem rnxt_any (A : Option Addr) (n cap : Nat) (l : List Win) (m p t : Int) (w : World) (hs : Sl w (.slice A n cap) n 4 (ints (wins l))) (hn : n ≤ maxLen) (hl : l.length = n) (hw : ∀ x ∈ l, W64 x) :
    Calls Tryd.prog 32 #[.slice A n cap, .int .i64 m, .int .i64 p, .int .i64 t] w fun e w' => e = .returned (.tuple #[.int .i64 (nxtN l m p t), .int .i64 (nxtC l m p t)]) ∧ Below w.heap.size w w' := by
  have HC := Lib.hid (rwmay_any A n cap l m 4 w hs hn hl hw)
  have HS := Lib.hid hs; have HL := Lib.hid hl
  unfold maxLen at hn
  clear hs hl hw
  rcases ask_parts l m t with ⟨hM, hA⟩ | ⟨hM, hA, ht0⟩ | ⟨hM, hA, ht0, ht1⟩ | ⟨hM, hA, ht0, ht1⟩
  · have hN : nxtN l m p t = 0 := by unfold nxtN; rw [hA]; rfl
    have hC : nxtC l m p t = 1000 := by unfold nxtC; rw [hA]; rfl
    rw [hM] at HC
    rw [hN, hC]
    clear hA hN hC hM
    go_enter Tryd.func32, Tryd.ntmps32
    go_wp2_with fail
    refine HC.out.mono ?_
    rintro e w1 ⟨rfl, b1⟩
    go_wp2_with fail
    go_ret2
    exact ⟨rfl, b1⟩
  · have hN : nxtN l m p t = 0 := by unfold nxtN; rw [hA]; rfl
    have hC : nxtC l m p t = 1000 := by unfold nxtC; rw [hA]; rfl
    rw [hM] at HC
    rw [hN, hC]
    clear hA hN hC hM
    go_enter Tryd.func32, Tryd.ntmps32
    go_wp2_with fail
    refine HC.out.mono ?_
    rintro e w1 ⟨rfl, b1⟩
    go_wp2_with fail
    go_ret2
    exact ⟨rfl, b1⟩
  · have hN : nxtN l m p t = 0 := by unfold nxtN; rw [hA]; rfl
    have hC : nxtC l m p t = 1000 := by unfold nxtC; rw [hA]; rfl
    rw [hM] at HC
    rw [hN, hC]
    clear hA hN hC hM
    go_enter Tryd.func32, Tryd.ntmps32
    go_wp2_with fail
    refine HC.out.mono ?_
    rintro e w1 ⟨rfl, b1⟩
    go_wp2_with fail
    go_ret2
    exact ⟨rfl, b1⟩
  · have hN : nxtN l m p t = if wtW l p m (t % m) m ≠ m then t + wtW l p m (t % m) m else 0 := by unfold nxtN; rw [hA]; simp
    have hC : nxtC l m p t = if wtW l p m (t % m) m ≠ m then 0 else 1000 := by unfold nxtC; rw [hA]; simp
    obtain ⟨-, -, hm0, hm1⟩ := ask_nums hA
    have hfit : Hid (∀ k (hk : k < l.length), fitW l[k] m 4 = true) := Lib.hid (fun k hk => ((mayW_all hM).2 k hk).1)
    rw [hM] at HC
    obtain ⟨hq, hq0, hq1, hq2⟩ := tmod_pos ht0 hm0 hm1
    generalize t % m = q at *
    have HQ := Lib.hid hq; have HN := Lib.hid hN; have HC2 := Lib.hid hC
    clear hA hN hC hq hM
    have hmne : m ≠ 0 := by omega
    go_enter Tryd.func32, Tryd.ntmps32
    go_wp2_with fail
    refine HC.out.mono ?_
    rintro e w1 ⟨rfl, b1⟩
    go_wp2_with fail
    go_loopw [10, 11] (fun a i wr => ∃ (k : Nat) (best : Int), k ≤ n ∧ i = .int .i64 k ∧ a = .int .i64 best ∧ Hid (best = if wtW (l.take k) p m q m = m then -1 else wtW (l.take k) p m q m) ∧ Below w.heap.size w wr) (fun _ i _ => n - (intOf i).toNat)
    case atStart => exact ⟨0, -1, by omega, rfl, rfl, Lib.hid (by simp [wtW]), b1⟩
    case round =>
      obtain ⟨k, best, hk, rfl, rfl, HB, hbel⟩ := hrel
      have ha0 := wt_nonneg (l.take k) p m q m (by omega) (by omega)
      have ha1 := wt_le (l.take k) p m q m
      by_cases hlt : k < n
      · have hkl : k < l.length := by rw [HL.out]; exact hlt
        obtain ⟨b, o, rfl, hb, c0, c1, c2, c3⟩ := wd_at (HS.out.below hbel) HL.out k hkl
        have hst := Lib.hid (wt_take l p m q m k hkl)
        have hft := fit_of (hfit.out k hkl)
        generalize wtW (l.take k) p m q m = a at *
        generalize l[k] = x at *
        obtain ⟨xp, xs, xl, xd⟩ := x
        simp only at *
        obtain ⟨hd0, hd1⟩ : 0 ≤ xd ∧ xd < m := by omega
        have hk0 : (0 : Int) ≤ (k : Int) := by omega
        have hkn : (k : Int) < (n : Int) := by omega
        clear hft b1
        by_cases he : xp = p
        · have e1 : (xp == p) = true := by simpa using he
          have e2 : (xp != p) = false := by simpa using he
          rw [if_pos he] at hst
          have hz0 := Int.emod_nonneg (xd - q + m) hmne
          have hz1 := Int.emod_lt_of_pos (xd - q + m) (show 0 < m by omega)
          have hz : (xd - q + m) % m = if xd - q < 0 then xd - q + m else xd - q := by
            split
            · exact Int.emod_eq_of_lt (by omega) (by omega)
            · rw [Int.add_emod_right]; exact Int.emod_eq_of_lt (by omega) (by omega)
          have HBS := Lib.hid (best_step hz0 hz1 HB.out ha0 hst.out ha1)
          generalize hu9 : wtW (l.take (k + 1)) p m q m = u at *
          have HU9 := Lib.hid hu9; clear hu9
          generalize (xd - q + m) % m = z at *
          have HZ := Lib.hid hz; clear hz
          have hu : IntKind.i64.wrap (xd - q) = xd - q := IntWalk.i64_in _ (by omega)
          have hq := HQ.out
          have hbest : -1 ≤ best ∧ best ≤ 64 := by have := HB.out; split at this <;> omega
          obtain ⟨hb0, hb1⟩ := hbest
          clear hst he ha0 ha1
          go_wp2_with fail
          go_quiet (fail)
          replace hbel := bdrewN hbel nq
          generalize wr.drewN nq = w2 at *
          clear c0 c1 c2 c3 hb
          have HZ2 := HZ.out
          clear hu hq hq2
          by_cases hn0 : xd - q < 0
          · rw [if_pos hn0] at HZ2
            subst HZ2
            rcases HBS.out with ⟨h1 | ⟨h1, h2⟩, h3⟩ | ⟨h1, h2, h3⟩
            all_goals
              have H3 := Lib.hid h3; clear h3
              go_wp2_with fail
              go_roundw
              case rel => exact ⟨k + 1, _, by omega, by go_num, rfl, by rw [HU9.out]; exact H3, hbel⟩
              case measure => simp [intOf]; omega
          · rw [if_neg hn0] at HZ2
            subst HZ2
            rcases HBS.out with ⟨h1 | ⟨h1, h2⟩, h3⟩ | ⟨h1, h2, h3⟩
            all_goals
              have H3 := Lib.hid h3; clear h3
              go_wp2_with fail
              go_roundw
              case rel => exact ⟨k + 1, _, by omega, by go_num, rfl, by rw [HU9.out]; exact H3, hbel⟩
              case measure => simp [intOf]; omega
        · have e1 : (xp == p) = false := by simpa using he
          have e2 : (xp != p) = true := by simpa using he
          rw [if_neg he] at hst
          clear hq2 he
          go_wp2_with fail
          go_roundw
          case rel => exact ⟨k + 1, best, by omega, by go_num, rfl, by rw [hst.out]; exact HB, hbel⟩
          case measure => simp [intOf]; omega
      · obtain rfl : k = n := by omega
        rw [show l.take k = l by rw [← HL.out, List.take_length]] at *
        by_cases he : wtW l p m q m = m
        · have h1 := Lib.hid (show nxtN l m p t = 0 by rw [HN.out, if_neg (by simpa using he)])
          have h2 := Lib.hid (show nxtC l m p t = 1000 by rw [HC2.out, if_neg (by simpa using he)])
          obtain rfl : best = -1 := by rw [HB.out, if_pos he]
          clear he ha0 ha1 HN HC2 hq2 hq1 hq0 HQ b1 HB
          go_wp2_with fail
          go_ret2
          exact ⟨by rw [h1.out, h2.out]; rfl, hbel⟩
        · have h1 := Lib.hid (show nxtN l m p t = t + wtW l p m q m by rw [HN.out, if_pos (by simpa using he)])
          have h2 := Lib.hid (show nxtC l m p t = 0 by rw [HC2.out, if_pos (by simpa using he)])
          obtain rfl : best = wtW l p m q m := by rw [HB.out, if_neg he]
          clear he HN HC2 hq2 hq1 hq0 HQ b1 HB
          generalize wtW l p m q m = z at *
          go_wp2_with fail
          go_ret2
          exact ⟨by rw [h1.out, h2.out]; rfl, hbel⟩

end Go.Proofs.YtobpggpjboonfaaDoor
