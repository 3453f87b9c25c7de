/-
  Contracts of package console: the table of commands; what a line is answered.
-/
import Derived.Test.YtobpggpjboonfaaDoorCn5
import Derived.Laws.EntriesVeiled
namespace Go.Proofs.YtobpggpjboonfaaDoor
open Go.RowKit Go.Lib
set_option linter.unusedVariables false
set_option linter.unusedSimpArgs false
set_option maxRecDepth 100000

/-- The table's functions. -/
def cmP : Nat → Nat
  | 0 => 33
  | 1 => 34
  | 2 => 35
  | 3 => 36
  | _ => 37
/-- A row of the table. -/
def cmR (k : Nat) : List Value := [.string (str (cmW k)), .int .i64 (cmN k : Int), .func (.func (cmP k)) #[] #[]]
def cmT : List Value := cmR 0 ++ cmR 1 ++ cmR 2 ++ cmR 3 ++ cmR 4

theorem commands_any (w : World) : Calls Tryd.prog 17 #[] w fun e w' => e = .returned (.slice (some ⟨w.heap.size, 0, none⟩) 5 5) ∧ w' = w.alloc (.cells cmT.toArray 76) := by
  go_enter Tryd.func17, Tryd.ntmps17
  go_wp2
  go_ret
  exact ⟨rfl, rfl⟩

theorem tail_run (A : Option Addr) (n cap : Nat) (hn : 1 ≤ n) (wx : World) : (Instr.slice 28 (.slice A n cap) (some (.int .i64 1)) none none).run Tryd.prog wx = .ok (sliced A 1 n cap 1) wx := by
  rw [run_slice_l wx 28 A n cap (by kernel_rfl) .i64 1 (by omega) (by omega)]
  have e : (sizeOf (Tryd.prog.elem 28)).run Tryd.prog wx = .ok 1 wx := by kernel_rfl
  rw [e]
  rfl
theorem tail_sl {w : World} {A : Option Addr} {n cap : Nat} {t : List UInt8} {ts : List (List UInt8)} (hs : Sl w (.slice A n cap) n 1 (txs (t :: ts))) : Sl w (sliced A 1 n cap 1) (n - 1) 1 (txs ts) := by
  obtain ⟨A', c', e, hc, hl, hA⟩ := hs
  injection e with e1 e2 e3
  subst e1 e3
  have hn : n = ts.length + 1 := by rw [txs_len, Nat.mul_one] at hl; simpa using hl.symm
  subst hn
  refine ⟨_, _, rfl, by omega, by rw [txs_len]; omega, fun h0 => ?_⟩
  obtain ⟨b, o, rfl, hb, hcell⟩ := hA (by omega)
  rw [if_neg (by omega)]
  refine ⟨b, o + 1, by simp [add_none], hb, fun j u hu => ?_⟩
  have := hcell (j + 1) u (by rw [txs, List.map_cons, List.getElem?_cons_succ]; exact hu)
  rw [show o + 1 + j = o + (j + 1) by omega]; exact this

theorem cmT_at {w : World} {g : Nat} (h : Blk w g 76 cmT) (k : Nat) (hk : k < 5) : w.cell? ⟨g, k * 3, none⟩ = some (.string (str (cmW k))) ∧ w.cell? ⟨g, k * 3 + 1, none⟩ = some (.int .i64 (cmN k : Int)) ∧ w.cell? ⟨g, k * 3 + 2, none⟩ = some (.func (.func (cmP k)) #[] #[]) := by
  rw [h.cell, h.cell, h.cell]
  rcases (show k = 0 ∨ k = 1 ∨ k = 2 ∨ k = 3 ∨ k = 4 by omega) with rfl | rfl | rfl | rfl | rfl <;> exact ⟨rfl, rfl, rfl⟩

theorem cmF_hit {W : List UInt8} {N k : Nat} (hk : k < 5) (h : isC W N k = true) : cmF W N (5 - k) k = some k := by
  rw [show 5 - k = (4 - k) + 1 by omega, cmF, if_pos h]
theorem cmF_miss {W : List UInt8} {N k : Nat} (hk : k < 5) (h : isC W N k = false) : cmF W N (5 - k) k = cmF W N (5 - (k + 1)) (k + 1) := by
  rw [show 5 - k = (5 - (k + 1)) + 1 by omega, cmF, if_neg (by simp [h])]
theorem str_eqB (a b : List UInt8) (h : a = b) : ((str a).toList == (str b).toList) = true := by subst h; simp
theorem str_neB (a b : List UInt8) (h : a ≠ b) : ((str a).toList == (str b).toList) = false := str_ne (fun e => h (by have := congrArg (fun s => s.data.toList) e; simpa [str_list] using this))
theorem tsplit_any (v : Value) (a n : Int) (w : World) (he : Env w) (hs : Sl w v 2 1 (ints [a, n])) :
    Calls Tryd.prog 33 #[v] w (TlA (spS a n) w) := by
  cases h : spB a n with
  | true => exact tsplit_yes v a n w he hs h
  | false => exact tsplit_no v a n w hs h
/-- What a row's function answers. -/
theorem tells_any (k : Nat) (hk : k < 5) (v : Value) (xs : List Int) (w : World) (he : Env w) (hl : xs.length = cmN k) (hs : Sl w v xs.length 1 (ints xs)) (hx : ∀ x ∈ xs, -1000000 < x ∧ x < 1000000) :
    Calls Tryd.prog (cmP k) #[v] w (TlA (tlC k xs) w) := by
  rcases (show k = 0 ∨ k = 1 ∨ k = 2 ∨ k = 3 ∨ k = 4 by omega) with rfl | rfl | rfl | rfl | rfl
  · match xs, hl with
    | [a, b], _ => exact tsplit_any v a b w he hs
  · match xs, hl with
    | [a, b], _ => exact tentry_any v a b w he hs
  · match xs, hl with
    | [a], _ => exact tword_any v a w he hs
  · match xs, hl with
    | [a, b, c, d], _ => exact tover_any v a b c d w hs
  · match xs, hl with
    | [a, b, c, d, e], _ => exact tnext_any v a b c d e w he hs (hx b (by simp)) (hx c (by simp)) (hx d (by simp)) (hx e (by simp))

set_option maxHeartbeats 2000000 in
theorem answer_any (g : Nat) (v : Value) (n : Nat) (W : List UInt8) (ts : List (List UInt8)) (w : World) (he : Env w) (hT : Blk w g 76 cmT) (hs : Sl w v n 1 (txs (W :: ts))) (hn : n ≤ 65536) (ht : ∀ t ∈ ts, t.length ≤ 65536) :
    Calls Tryd.prog 41 #[.slice (some ⟨g, 0, none⟩) 5 5, v] w (TlA (asS (W :: ts)) w) := by
  have hs0 := hs
  obtain ⟨A, cap, rfl, hc, hlen, hA⟩ := hs
  have hnl : n = ts.length + 1 := by rw [txs_len, Nat.mul_one] at hlen; simpa using hlen.symm
  obtain ⟨b, o, rfl, hlt, hcell⟩ := hA (by omega)
  have hw0 := hcell 0 _ rfl
  rw [Nat.add_zero] at hw0
  change w.cell? ⟨b, o, none⟩ = some (.string (str W)) at hw0
  obtain ⟨N, hN⟩ : ∃ N, ts.length = N := ⟨_, rfl⟩
  rw [hN] at hnl
  have htr := tail_run (some ⟨b, o, none⟩) n cap (by omega)
  have hts := tail_sl hs0
  rw [show n - 1 = N by omega] at hts
  generalize sliced (some ⟨b, o, none⟩) 1 n cap 1 = tv at *
  have HTR := Lib.hid htr
  have HNU : Hid (∀ w2, Below w.heap.size w w2 → Calls Tryd.prog 59 #[tv] w2 (NmA ts w2)) := Lib.hid (fun w2 hb => numbers_any tv N ts w2 (hts.below hb) (by omega) ht)
  clear htr hts
  have e1 : IntKind.i64.wrap ((n : Int) - 1) = (N : Int) := by rw [IntKind.wrap_i64]; omega
  have HAS : Hid (asS (W :: ts) = match cmF W N 5 0 with
    | none => ([], 2500)
    | some k => match numsS ts with
      | none => ([], 2500)
      | some xs => tlC k xs) := Lib.hid (by rw [← hN]; rfl)
  have HE := Lib.hid he; have HB := Lib.hid hT; have HT := Lib.hid ht; have HNL := Lib.hid hnl; have HN := Lib.hid hN
  have hgl := hT.lt
  clear hcell hA hs0 hlen he hT ht hN
  generalize hS : str W = S at *
  have HS := Lib.hid hS
  clear hS
  generalize hR : cmF W N 5 0 = R at *
  have HR := Lib.hid hR
  clear hR
  have hn1 : 1 ≤ n := by omega
  clear hnl
  go_enter Tryd.func41, Tryd.ntmps41
  go_wp2_with fail
  go_loopw [7, 12] (fun _ i wr => ∃ (k : Nat), k ≤ 5 ∧ i = .int .i64 k ∧ Hid (cmF W N (5 - k) k = R ∧ Below w.heap.size w wr)) (fun _ i _ => 5 - (intOf i).toNat)
  case atStart => exact ⟨0, by omega, rfl, Lib.hid ⟨HR.out, Below.refl _ _⟩⟩
  case round =>
    obtain ⟨k, hk, rfl, HK⟩ := hrel
    by_cases hk5 : k < 5
    · obtain ⟨q0, q1, q2⟩ := cmT_at (HB.out.below HK.out.2 hgl) k hk5
      have hw1 := (HK.out.2.cell (p := ⟨b, o, none⟩) hlt).trans hw0
      have hsz := HK.out.2.size
      have HM : Hid (∀ x, cmF W N (5 - k) k = some x → R = some x) := Lib.hid (fun x h => by rw [← HK.out.1]; exact h)
      have HQ : Hid (isC W N k = false → cmF W N (5 - (k + 1)) (k + 1) = R) := Lib.hid (fun h => by rw [← cmF_miss hk5 h]; exact HK.out.1)
      have hb1 : ∀ B : Bool, decide (cmW k = W) = B → ((str (cmW k)).toList == S.toList) = B := by
        intro B hB
        rw [← HS.out]
        cases B with
        | true => exact str_eqB _ _ (of_decide_eq_true hB)
        | false => exact str_neB _ _ (of_decide_eq_false hB)
      have HB1 := Lib.hid hb1
      clear hb1
      have HT3 := Lib.hid (tells_any k hk5)
      have hk3 : ∀ x, x = cmP k → (x = 33 ∨ x = 34 ∨ x = 35 ∨ x = 36 ∨ x = 37) := by
        intro x hx
        rw [hx]
        rcases (show k = 0 ∨ k = 1 ∨ k = 2 ∨ k = 3 ∨ k = 4 by omega) with rfl | rfl | rfl | rfl | rfl
        · exact .inl rfl
        · exact .inr (.inl rfl)
        · exact .inr (.inr (.inl rfl))
        · exact .inr (.inr (.inr (.inl rfl)))
        · exact .inr (.inr (.inr (.inr rfl)))
      have HK3 := Lib.hid hk3
      have HCN : Hid (∀ B : Bool, decide (cmW k = W) = true → decide (cmN k = N) = B → isC W N k = B) := Lib.hid (fun B h1 h2 => by
        unfold isC
        rw [decide_eq_true (of_decide_eq_true h1).symm, Bool.true_and, ← h2, decide_eq_decide]
        exact eq_comm)
      have HCW : Hid (decide (cmW k = W) = false → isC W N k = false) := Lib.hid (fun h1 => by
        unfold isC
        rw [decide_eq_false (fun e => of_decide_eq_false h1 e.symm)]; rfl)
      clear hk3
      generalize decide (cmW k = W) = BW at *
      have hM : cmN k ≤ 5 := by rcases (show k = 0 ∨ k = 1 ∨ k = 2 ∨ k = 3 ∨ k = 4 by omega) with rfl | rfl | rfl | rfl | rfl <;> decide
      generalize cmN k = M at *
      generalize cmP k = F at *
      generalize str (cmW k) = SK at *
      have hbl : b < wr.heap.size := Nat.lt_of_lt_of_le hlt hsz
      have t0 := Blk.new wr 76 [.string SK, .int .i64 (M : Int), .func (.func F) #[] #[]]
      have r0 : (wr.alloc (.cells #[.string SK, .int .i64 (M : Int), .func (.func F) #[] #[]] 76)).cell? ⟨wr.heap.size, 0, none⟩ = some (.string SK) := t0.cell 0
      have r1 : (wr.alloc (.cells #[.string SK, .int .i64 (M : Int), .func (.func F) #[] #[]] 76)).cell? ⟨wr.heap.size, 1, none⟩ = some (.int .i64 (M : Int)) := t0.cell 1
      have r2 : (wr.alloc (.cells #[.string SK, .int .i64 (M : Int), .func (.func F) #[] #[]] 76)).cell? ⟨wr.heap.size, 2, none⟩ = some (.func (.func F) #[] #[]) := t0.cell 2
      have hb0 := (Below.refl wr.heap.size wr).alloc (Nat.le_refl _) (.cells #[.string SK, .int .i64 (M : Int), .func (.func F) #[] #[]] 76)
      have hw2 := (hb0.cell (p := ⟨b, o, none⟩) hbl).trans hw1
      have HBL := Lib.hid (HK.out.2.trans (hb0.mono hsz))
      have hgg : wr.heap.size < (wr.alloc (.cells #[.string SK, .int .i64 (M : Int), .func (.func F) #[] #[]] 76)).heap.size := by simp
      clear t0 hb0
      go_wp2_with fail
      generalize wr.alloc (.cells #[.string SK, .int .i64 (M : Int), .func (.func F) #[] #[]] 76) = w1 at *
      generalize wr.heap.size = gg at *
      clear hw1 q0 q1 q2
      cases BW with
      | false =>
        have hbw := HB1.out false rfl
        go_quiet (fail)
        have HF : Hid (cmF W N (5 - (k + 1)) (k + 1) = R ∧ Below w.heap.size w w1) := Lib.hid ⟨HQ.out (HCW.out rfl), HBL.out⟩
        go_wp2_with fail
        go_roundw
        case rel => exact ⟨k + 1, by omega, by go_num, Lib.hid ⟨HF.out.1, bdrewN HF.out.2 _⟩⟩
        case measure => simp [intOf]; omega
      | true =>
        have hbw := HB1.out true rfl
        by_cases hmn : M = N
        · have hbn : ((M : Int) == (N : Int)) = true := by simp [hmn]
          have HI := Lib.hid (HCN.out true rfl (decide_eq_true hmn))
          have HR1 := Lib.hid (HM.out k (cmF_hit hk5 HI.out))
          go_quiet (fail)
          have htr := HTR.out
          go_wp2_with fail
          refine (HNU.out _ (bdrewN HBL.out _)).mono ?_
          clear htr
          rintro e w2 (⟨hno, rfl, b2⟩ | ⟨v2, xs, hxs, rfl, o2, b2⟩)
          · have HA5 : Hid (asS (W :: ts) = ([], 2500)) := Lib.hid (by have := HAS.out; rw [HR1.out, hno] at this; exact this)
            have B2 := Lib.hid ((bdrewN HBL.out _).trans (b2.mono (by have := HBL.out.size; exact this)))
            clear hno b2
            go_wp2_with fail
            go_ret2
            exact ⟨by rw [HA5.out]; rfl, B2.out⟩
          · have HA5 : Hid (asS (W :: ts) = tlC k xs) := Lib.hid (by have := HAS.out; rw [HR1.out, hxs] at this; exact this)
            have B2 := Lib.hid ((bdrewN HBL.out _).trans (b2.mono (by have := HBL.out.size; exact this)))
            have hl := numsS_len ts xs hxs
            have HX := Lib.hid (HT3.out v2 xs w2 (HE.out.below B2.out) (by rw [hl, HN.out]; exact hmn.symm) (Sl.own o2) (numsS_small ts xs hxs))
            have r3 : w2.cell? ⟨gg, 2, none⟩ = some (.func (.func F) #[] #[]) := (b2.cell (p := ⟨gg, 2, none⟩) hgg).trans r2
            have hs2 := B2.out.size
            clear hl hxs o2 b2 r0 r1 r2 hw2
            generalize tlC k xs = Z at *
            rcases HK3.out F rfl with rfl | rfl | rfl | rfl | rfl
            all_goals
              go_wp2_with fail
              refine HX.out.mono ?_
              rintro e w3 ⟨rfl, b3⟩
              have B3 := Lib.hid (B2.out.trans (b3.mono hs2))
              clear b3
              go_wp2_with fail
              go_ret2
              exact ⟨by rw [HA5.out]; rfl, B3.out⟩
        · have hbn : ((M : Int) == (N : Int)) = false := by simp; omega
          have HI := Lib.hid (HCN.out false rfl (decide_eq_false hmn))
          go_quiet (fail)
          have HF : Hid (cmF W N (5 - (k + 1)) (k + 1) = R ∧ Below w.heap.size w w1) := Lib.hid ⟨HQ.out HI.out, HBL.out⟩
          go_wp2_with fail
          go_roundw
          case rel => exact ⟨k + 1, by omega, by go_num, Lib.hid ⟨HF.out.1, bdrewN HF.out.2 _⟩⟩
          case measure => simp [intOf]; omega
    · obtain rfl : k = 5 := by omega
      have hR0 : R = none := by rw [← HK.out.1]; rfl
      have HA5 : Hid (asS (W :: ts) = ([], 2500)) := Lib.hid (by have := HAS.out; rw [hR0] at this; exact this)
      clear hR0
      go_wp2_with fail
      go_ret2
      exact ⟨by rw [HA5.out]; rfl, HK.out.2⟩

end Go.Proofs.YtobpggpjboonfaaDoor
